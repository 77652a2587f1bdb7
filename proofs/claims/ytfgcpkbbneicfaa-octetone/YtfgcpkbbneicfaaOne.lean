/- For every row of bytes: bytes that are read as a number, a number with a sign or a text, written again, are these bytes: OctetOne answers true. No condition. -/
import Derived.Test.YtfgcpkbbneicfaaMath
import Derived.Test.YtfgcpkbbneicfaaSame
import Derived.Deep.RegionWith
import Derived.Deep.RegionHeld3
import Derived.Deep.CutRange
import Derived.Deep.DeepCutAuto
namespace Go.Proofs.Ytfgcpkbbneicfaa
open Go.RowKit
open Go.Lib (uvarint uvarint_small uvarint_big uvarint_length64 uvarint_pos)

/-- What stands when three readers of the same bytes are made. -/
def Three (w w4 : World) (r1 r2 r3 : Nat) (l : List UInt8) : Prop :=
  (∃ lo1 lo2 lo3, w.heap.size ≤ lo1 ∧ lo1 ≤ r1 ∧ r1 < lo2 ∧ lo2 ≤ r2 ∧ r2 < lo3 ∧ lo3 ≤ r3 ∧ r3 < w4.heap.size ∧ Rd w4 r1 lo1 l ∧ Rd w4 r2 lo2 l ∧ Rd w4 r3 lo3 l) ∧ Below w.heap.size w w4

theorem three_mk {w w1 w2 w3 w4 : World} {r1 r2 r3 : Nat} {l : List UInt8}
    (S1 : w.heap.size ≤ r1 ∧ r1 + 1 = w1.heap.size ∧ Rd w1 r1 w.heap.size l ∧ Below w.heap.size w w1)
    (S2 : w1.heap.size ≤ r2 ∧ r2 + 1 = w2.heap.size ∧ Rd w2 r2 w1.heap.size l ∧ Below w1.heap.size w1 w2)
    (S3 : w2.heap.size ≤ r3 ∧ r3 + 1 = w3.heap.size ∧ Rd w3 r3 w2.heap.size l ∧ Below w2.heap.size w2 w3)
    (S4 : Below w3.heap.size w3 w4) : Three w w4 r1 r2 r3 l := by
  obtain ⟨a1, a2, a3, a4⟩ := S1
  obtain ⟨b1, b2, b3, b4⟩ := S2
  obtain ⟨c1, c2, c3, c4⟩ := S3
  have s1 := a4.size
  have s2 := b4.size
  have s3 := c4.size
  have s4 := S4.size
  refine ⟨⟨w.heap.size, w1.heap.size, w2.heap.size, Nat.le_refl _, a1, by omega, b1, by omega, c1, by omega, ?_, ?_, ?_⟩, ?_⟩
  · exact a3.kept (fun k _ hk => ((S4.block k (by omega)).trans (c4.block k (by omega))).trans (b4.block k (by omega))) a1
  · exact b3.kept (fun k _ hk => (S4.block k (by omega)).trans (c4.block k (by omega))) b1
  · exact c3.kept (fun k _ hk => S4.block k (by omega)) c1
  · exact ((a4.trans (b4.mono s1)).trans (c4.mono (by omega))).trans (S4.mono (by omega))

def Two (w w4 : World) (r2 r3 : Nat) (l : List UInt8) : Prop :=
  (∃ lo2 lo3, w.heap.size ≤ lo2 ∧ lo2 ≤ r2 ∧ r2 < lo3 ∧ lo3 ≤ r3 ∧ r3 < w4.heap.size ∧ Rd w4 r2 lo2 l ∧ Rd w4 r3 lo3 l) ∧ Below w.heap.size w w4
def Last (w w4 : World) (r3 : Nat) (l : List UInt8) : Prop :=
  (∃ lo3, w.heap.size ≤ lo3 ∧ lo3 ≤ r3 ∧ r3 < w4.heap.size ∧ Rd w4 r3 lo3 l) ∧ Below w.heap.size w w4

theorem Two.later {w w4 w5 : World} {r2 r3 : Nat} {l : List UInt8} (h : Two w w4 r2 r3 l) (hb : Below w4.heap.size w4 w5) : Two w w5 r2 r3 l := by
  obtain ⟨⟨lo2, lo3, h1, h2, h3, h4, h5, h6, h7⟩, h8⟩ := h
  have := hb.size
  have := h8.size
  exact ⟨⟨lo2, lo3, h1, h2, h3, h4, by omega, h6.kept (fun k _ hk => hb.block k (by omega)) h2, h7.kept (fun k _ hk => hb.block k (by omega)) h4⟩, h8.trans (hb.mono (by omega))⟩

theorem Last.later {w w4 w5 : World} {r3 : Nat} {l : List UInt8} (h : Last w w4 r3 l) (hb : Below w4.heap.size w4 w5) : Last w w5 r3 l := by
  obtain ⟨⟨lo3, h1, h2, h3, h4⟩, h8⟩ := h
  have := hb.size
  have := h8.size
  exact ⟨⟨lo3, h1, h2, by omega, h4.kept (fun k _ hk => hb.block k (by omega)) h2⟩, h8.trans (hb.mono (by omega))⟩

theorem oneU {w w4 : World} {r1 r2 r3 : Nat} {l : List UInt8} {u n e : Nat} (h : Three w w4 r1 r2 r3 l) (hf : front l = (u, n, e)) :
    Calls Try.prog 22 #[.pointer (some ⟨r1, 0, none⟩)] w4 fun e' w' =>
      e' = .returned (.tuple #[.int .u64 u, .int .i64 e]) ∧ (∃ lo, Rd w' r1 lo (l.drop n)) ∧ Two w w' r2 r3 l := by
  obtain ⟨⟨lo1, lo2, lo3, h1, h2, h3, h4, h5, h6, h7, h8, h9, h10⟩, h11⟩ := h
  have hh := rUvarint w4 r1 lo1 l h8
  rw [hf] at hh
  refine hh.mono ?_
  rintro e' w' ⟨rfl, h12, h13⟩
  have := h13.size
  have := h11.size
  refine ⟨rfl, ⟨lo1, h12⟩, ⟨lo2, lo3, by omega, h4, h5, h6, by omega, ?_, ?_⟩, below_grown h11 h13 (by omega) (by omega)⟩
  · exact h9.kept (fun k hk hk' => h13.block k (by omega) (fun e => by cases e; omega)) h4
  · exact h10.kept (fun k hk hk' => h13.block k (by omega) (fun e => by cases e; omega)) h6

theorem oneV {w w4 : World} {r2 r3 : Nat} {l : List UInt8} {u n e : Nat} (h : Two w w4 r2 r3 l) (hf : front l = (u, n, e)) :
    Calls Try.prog 24 #[.pointer (some ⟨r2, 0, none⟩)] w4 fun e' w' =>
      e' = .returned (.tuple #[.int .i64 (unz u), .int .i64 e]) ∧ (∃ lo, Rd w' r2 lo (l.drop n)) ∧ Last w w' r3 l := by
  obtain ⟨⟨lo2, lo3, h1, h4, h5, h6, h7, h9, h10⟩, h11⟩ := h
  have hh := rVarint w4 r2 lo2 l h9
  rw [hf] at hh
  refine hh.mono ?_
  rintro e' w' ⟨rfl, h12, h13⟩
  have := h13.size
  have := h11.size
  refine ⟨rfl, ⟨lo2, h12⟩, ⟨lo3, by omega, h6, by omega, ?_⟩, below_grown h11 h13 (by omega) (by omega)⟩
  exact h10.kept (fun k hk hk' => h13.block k (by omega) (fun e => by cases e; omega)) h6

theorem oneT {w w4 : World} {r3 : Nat} {l : List UInt8} (h : Last w w4 r3 l) :
    Calls Try.prog 26 #[.pointer (some ⟨r3, 0, none⟩)] w4 fun e' w' =>
      e' = .returned (.tuple #[.string (bytesOf (textOf l)), .int .i64 (textErr l)]) ∧ (∃ lo, Rd w' r3 lo (textRest l)) ∧ Below w.heap.size w w' := by
  obtain ⟨⟨lo3, h1, h6, h7, h10⟩, h11⟩ := h
  refine (rText w4 r3 lo3 l h10).mono ?_
  rintro e' w' ⟨rfl, h12, h13⟩
  have := h11.size
  exact ⟨rfl, ⟨lo3, h12⟩, below_grown h11 h13 (by omega) (by omega)⟩

theorem oneL {w : World} {r : Nat} {l : List UInt8} (q : Nat) (h : ∃ lo, Rd w r lo l) (hq : l.length = q) :
    Calls Try.prog 30 #[.pointer (some ⟨r, 0, none⟩)] w fun e w' => e = .returned (.int .i64 q) ∧ w' = w := by
  obtain ⟨lo, h⟩ := h
  subst hq
  exact rLeft w r lo l h

theorem slice_head (w : World) (a : Option Addr) (c : Nat) {lo hi : Nat} {l : List UInt8} (h : BytesIn w lo hi (.slice a l.length c) l) (n q : Nat) (hn : n + q = l.length) :
    ∃ a' c', (∀ w' : World, (Instr.slice 23 (.slice a l.length c) none (some (.int .i64 ((l.length : Int) - (q : Int)))) none).run Try.prog w' = .ok (.slice a' n c') w') ∧
      BytesIn w lo hi (.slice a' n c') (l.take n) := by
  have e : ((l.length : Int) - (q : Int)) = (n : Int) := by omega
  rw [e]
  exact slice_high w .i64 a c h n (by omega)

set_option maxRecDepth 100000 in
set_option maxHeartbeats 2000000 in
theorem one_walk (a : Option Addr) (c : Nat) (l : List UInt8) (w : World) (hb : BytesIn w 0 w.heap.size (.slice a l.length c) l) (hc : c ≤ 140737488351232) (hlc : l.length ≤ c)
    (u n : Nat) (hf : front l = (u, n, 0)) (ht : textErr l = 0) :
    Calls Try.prog 6 #[.slice a l.length c] w fun e w' => e = .returned (.bool true) ∧ Below w.heap.size w w' := by
  have HB := hide hb
  have HF := hide hf
  have HT := hide ht
  clear hb hf ht
  go_enter Try.func6, Try.ntmps6
  go_upto_region 6 with (first | (go_at_call 18; refine (newReader_any _ _ l (HB.out.plain.later (S1.out.2.2.2.trans (S2.out.2.2.2.mono S1.out.2.2.2.size))) (by omega)).mono ?_; rintro e w3 ⟨r3, rfl, A1, A2, A3, A4⟩; have S3 := hide (And.intro A1 (And.intro A2 (And.intro A3 A4))); clear A1 A2 A3 A4) | (go_at_call 18; refine (newReader_any _ _ l (HB.out.plain.later S1.out.2.2.2) (by omega)).mono ?_; rintro e w2 ⟨r2, rfl, A1, A2, A3, A4⟩; have S2 := hide (And.intro A1 (And.intro A2 (And.intro A3 A4))); clear A1 A2 A3 A4) | (go_at_call 18; refine (newReader_any _ _ l HB.out.plain (by omega)).mono ?_; rintro e w1 ⟨r1, rfl, A1, A2, A3, A4⟩; have S1 := hide (And.intro A1 (And.intro A2 (And.intro A3 A4))); clear A1 A2 A3 A4) | (go_at_call 17; refine (heads_any _).mono ?_; rintro e w4 ⟨rfl, A1⟩; have T := hide (three_mk S1.out S2.out S3.out A1); clear A1))
  clear S1 S2 S3
  have hfit := (front_one l u n HF.out).2
  have hu := front_lt l
  rw [HF.out] at hu
  obtain ⟨q, hq⟩ : ∃ q, n + q = l.length := ⟨l.length - n, by omega⟩
  obtain ⟨a1, c1, hs1, hb1⟩ := slice_high w .i64 a c HB.out n (by omega)
  have hln : ((l.length : Int) - (q : Int)) = (n : Int) := by omega
  have hd1 : decide ((n : Int) < 0) = false := by simp
  have hd2 : decide ((l.length : Int) < (n : Int)) = false := by simp; omega
  have hd3 : decide (l.length < n) = false := by simp; omega
  have HB1 := hide hb1
  have HU := hide hu
  have HQ : Hid ((l.drop n).length = q) := by show _ = _; rw [List.length_drop]; omega
  clear hb1 hfit hu
  go_upto_region 9 with (first | (go_at_call 22; refine (oneU T.out HF.out).mono ?_; rintro e w5 ⟨rfl, A1, A2⟩; have B1 := hide A1; have B2 := hide A2; clear A1 A2) | (go_at_call 30; refine (oneL q B1.out HQ.out).mono ?_; rintro e w6 ⟨rfl, rfl⟩))
  go_cut [63] (fun s wx => s = .bool false ∧ Two w wx r2 r3 l)
  case first =>
    go_region_held3 (fun _ => True) (trivial) (first | (go_at_call 9; refine (uvarint_any _ HU.out _).mono ?_; rintro e w7 ⟨v1, rfl, A1, A2⟩; have C1 := hide A1; have C2 := hide A2; clear A1 A2) | (go_at_call 12; refine (same_yes _ _ _ _ _ (ownsRow_bytes C1.out).2.plain ((HB1.out.plain.later B2.out.2.drew).later C2.out) (front_one l u n HF.out).1).mono ?_; rintro e w8 ⟨rfl, rfl⟩))
    go_wp2_with fail
    go_meet
    case rel => exact ⟨rfl, (B2.out.later (Below.refl _ _).drew).later C2.out⟩
  case rest =>
    obtain ⟨rfl, T2⟩ := hcut
    have T2' := hide T2
    clear T2 B1 B2 T
    go_upto_region 14 with (first | (go_at_call 24; refine (oneV T2'.out HF.out).mono ?_; rintro e w7 ⟨rfl, A1, A2⟩; have B1 := hide A1; have B2 := hide A2; clear A1 A2) | (go_at_call 30; refine (oneL q B1.out HQ.out).mono ?_; rintro e w8 ⟨rfl, rfl⟩))
    go_cut [92] (fun s wx => s = .bool false ∧ Last w wx r3 l)
    case first =>
      go_region_held3 (fun _ => True) (trivial) (first | (go_at_call 10; refine (varint_any _ (unz_bounds u HU.out).1 (unz_bounds u HU.out).2 _).mono ?_; rintro e w9 ⟨v1, rfl, A1, A2⟩; rw [zz_unz] at A1; have C1 := hide A1; have C2 := hide A2; clear A1 A2) | (go_at_call 12; refine (same_yes _ _ _ _ _ (ownsRow_bytes C1.out).2.plain ((HB1.out.plain.later B2.out.2.drew).later C2.out) (front_one l u n HF.out).1).mono ?_; rintro e w10 ⟨rfl, rfl⟩))
      go_wp2_with fail
      go_meet
      case rel => exact ⟨rfl, (B2.out.later (Below.refl _ _).drew).later C2.out⟩
    case rest =>
      obtain ⟨rfl, T3⟩ := hcut
      have T3' := hide T3
      clear T3 B1 B2 T2'
      obtain ⟨x1, x2, x3⟩ := text_one l HT.out
      obtain ⟨q3, hq3⟩ : ∃ q3, (textRest l).length = q3 := ⟨_, rfl⟩
      rw [hq3] at x1 x2
      obtain ⟨m3, hm3⟩ : ∃ m3, l.length - q3 = m3 := ⟨_, rfl⟩
      rw [hm3] at x1
      have x4 : (bytesOf (textOf l)).size ≤ 140737488351232 := by
        show (textOf l).toArray.size ≤ _
        rw [List.size_toArray]
        omega
      obtain ⟨a3, c3, hs3, hb3⟩ := slice_high w .i64 a c HB.out m3 (by omega)
      have hm4 : m3 ≤ l.length := by omega
      have hln3 : ((l.length : Int) - (q3 : Int)) = (m3 : Int) := by omega
      have he1 : decide ((m3 : Int) < 0) = false := by simp
      have he2 : decide ((l.length : Int) < (m3 : Int)) = false := by simp; omega
      have he3 : decide (l.length < m3) = false := by simp; omega
      have HB3 := hide hb3
      have X1 := hide x1
      have X4 := hide x4
      have HQ3 := hide hq3
      clear hb3 x1 x2 x3 x4 hq3 hm3 hm4
      clear hs1 hln hd1 hd2 hd3 hq
      go_upto_region 19 with (first | (go_at_call 26; refine (oneT T3'.out).mono ?_; rintro e w9 ⟨rfl, A1, A2⟩; have B1 := hide A1; have B2 := hide A2; clear A1 A2; rw [HT.out]) | (go_at_call 30; refine (oneL q3 B1.out HQ3.out).mono ?_; rintro e w10 ⟨rfl, rfl⟩))
      go_cut [121] (fun s wx => s = .bool false ∧ Below w.heap.size w wx)
      case first =>
        go_region_held3 (fun _ => True) (trivial) (first | (go_at_call 11; refine (text_any _ X4.out _).mono ?_; rintro e w11 ⟨v1, rfl, A1, A2⟩; have C1 := hide A1; have C2 := hide A2; clear A1 A2) | (go_at_call 12; refine (same_yes _ _ _ _ _ (ownsRow_bytes C1.out).2.plain ((HB3.out.plain.later B2.out.drew).later C2.out) X1.out).mono ?_; rintro e w12 ⟨rfl, rfl⟩))
        go_wp2_with fail
        go_meet
        case rel => exact ⟨rfl, B2.out.drew.trans (C2.out.mono B2.out.drew.size)⟩
      case rest =>
        obtain ⟨rfl, T4⟩ := hcut
        have T4' := hide T4
        clear T4 B1 B2 T3'
        go_wp2
        go_ret
        exact ⟨rfl, T4'.out⟩

set_option maxRecDepth 100000 in
set_option maxHeartbeats 2000000 in
theorem one_short (a : Option Addr) (c : Nat) (l : List UInt8) (w : World) (hb : BytesIn w 0 w.heap.size (.slice a l.length c) l) (hc : c ≤ 140737488351232) (hlc : l.length ≤ c)
    (u n : Nat) (hf : front l = (u, n, 0)) (ht : 0 < textErr l) :
    Calls Try.prog 6 #[.slice a l.length c] w fun e w' => e = .returned (.bool true) ∧ Below w.heap.size w w' := by
  have HB := hide hb
  have HF := hide hf
  clear hb hf
  go_enter Try.func6, Try.ntmps6
  go_upto_region 6 with (first | (go_at_call 18; refine (newReader_any _ _ l (HB.out.plain.later (S1.out.2.2.2.trans (S2.out.2.2.2.mono S1.out.2.2.2.size))) (by omega)).mono ?_; rintro e w3 ⟨r3, rfl, A1, A2, A3, A4⟩; have S3 := hide (And.intro A1 (And.intro A2 (And.intro A3 A4))); clear A1 A2 A3 A4) | (go_at_call 18; refine (newReader_any _ _ l (HB.out.plain.later S1.out.2.2.2) (by omega)).mono ?_; rintro e w2 ⟨r2, rfl, A1, A2, A3, A4⟩; have S2 := hide (And.intro A1 (And.intro A2 (And.intro A3 A4))); clear A1 A2 A3 A4) | (go_at_call 18; refine (newReader_any _ _ l HB.out.plain (by omega)).mono ?_; rintro e w1 ⟨r1, rfl, A1, A2, A3, A4⟩; have S1 := hide (And.intro A1 (And.intro A2 (And.intro A3 A4))); clear A1 A2 A3 A4) | (go_at_call 17; refine (heads_any _).mono ?_; rintro e w4 ⟨rfl, A1⟩; have T := hide (three_mk S1.out S2.out S3.out A1); clear A1))
  clear S1 S2 S3
  have hfit := (front_one l u n HF.out).2
  have hu := front_lt l
  rw [HF.out] at hu
  obtain ⟨q, hq⟩ : ∃ q, n + q = l.length := ⟨l.length - n, by omega⟩
  obtain ⟨a1, c1, hs1, hb1⟩ := slice_high w .i64 a c HB.out n (by omega)
  have hln : ((l.length : Int) - (q : Int)) = (n : Int) := by omega
  have hd1 : decide ((n : Int) < 0) = false := by simp
  have hd2 : decide ((l.length : Int) < (n : Int)) = false := by simp; omega
  have hd3 : decide (l.length < n) = false := by simp; omega
  have HB1 := hide hb1
  have HU := hide hu
  have HQ : Hid ((l.drop n).length = q) := by show _ = _; rw [List.length_drop]; omega
  clear hb1 hfit hu
  go_upto_region 9 with (first | (go_at_call 22; refine (oneU T.out HF.out).mono ?_; rintro e w5 ⟨rfl, A1, A2⟩; have B1 := hide A1; have B2 := hide A2; clear A1 A2) | (go_at_call 30; refine (oneL q B1.out HQ.out).mono ?_; rintro e w6 ⟨rfl, rfl⟩))
  go_cut [63] (fun s wx => s = .bool false ∧ Two w wx r2 r3 l)
  case first =>
    go_region_held3 (fun _ => True) (trivial) (first | (go_at_call 9; refine (uvarint_any _ HU.out _).mono ?_; rintro e w7 ⟨v1, rfl, A1, A2⟩; have C1 := hide A1; have C2 := hide A2; clear A1 A2) | (go_at_call 12; refine (same_yes _ _ _ _ _ (ownsRow_bytes C1.out).2.plain ((HB1.out.plain.later B2.out.2.drew).later C2.out) (front_one l u n HF.out).1).mono ?_; rintro e w8 ⟨rfl, rfl⟩))
    go_wp2_with fail
    go_meet
    case rel => exact ⟨rfl, (B2.out.later (Below.refl _ _).drew).later C2.out⟩
  case rest =>
    obtain ⟨rfl, T2⟩ := hcut
    have T2' := hide T2
    clear T2 B1 B2 T
    go_upto_region 14 with (first | (go_at_call 24; refine (oneV T2'.out HF.out).mono ?_; rintro e w7 ⟨rfl, A1, A2⟩; have B1 := hide A1; have B2 := hide A2; clear A1 A2) | (go_at_call 30; refine (oneL q B1.out HQ.out).mono ?_; rintro e w8 ⟨rfl, rfl⟩))
    go_cut [92] (fun s wx => s = .bool false ∧ Last w wx r3 l)
    case first =>
      go_region_held3 (fun _ => True) (trivial) (first | (go_at_call 10; refine (varint_any _ (unz_bounds u HU.out).1 (unz_bounds u HU.out).2 _).mono ?_; rintro e w9 ⟨v1, rfl, A1, A2⟩; rw [zz_unz] at A1; have C1 := hide A1; have C2 := hide A2; clear A1 A2) | (go_at_call 12; refine (same_yes _ _ _ _ _ (ownsRow_bytes C1.out).2.plain ((HB1.out.plain.later B2.out.2.drew).later C2.out) (front_one l u n HF.out).1).mono ?_; rintro e w10 ⟨rfl, rfl⟩))
      go_wp2_with fail
      go_meet
      case rel => exact ⟨rfl, (B2.out.later (Below.refl _ _).drew).later C2.out⟩
    case rest =>
      obtain ⟨rfl, T3⟩ := hcut
      have T3' := hide T3
      clear T3 B1 B2 T2'
      clear hs1 hln hd1 hd2 hd3 hq
      go_wp2_with (go_at_call 26; refine (oneT T3'.out).mono ?_; rintro e w9 ⟨rfl, A1, A2⟩; have B2 := hide A2; clear A1 A2)
      go_ret
      exact ⟨rfl, B2.out⟩

set_option maxRecDepth 100000 in
set_option maxHeartbeats 2000000 in
theorem one_err (a : Option Addr) (c : Nat) (l : List UInt8) (w : World) (hb : BytesIn w 0 w.heap.size (.slice a l.length c) l) (hc : c ≤ 140737488351232) (hlc : l.length ≤ c)
    (u n e : Nat) (hf : front l = (u, n, e)) (he : 0 < e) :
    Calls Try.prog 6 #[.slice a l.length c] w fun e w' => e = .returned (.bool true) ∧ Below w.heap.size w w' := by
  have HB := hide hb
  have HF := hide hf
  have ht : 0 < textErr l := by
    have : textErr l = e := by
      unfold textErr
      rw [hf]
      exact if_neg (fun h => by have := h.1; simp at this; omega)
    omega
  clear hb hf
  go_enter Try.func6, Try.ntmps6
  go_upto_region 6 with (first | (go_at_call 18; refine (newReader_any _ _ l (HB.out.plain.later (S1.out.2.2.2.trans (S2.out.2.2.2.mono S1.out.2.2.2.size))) (by omega)).mono ?_; rintro e w3 ⟨r3, rfl, A1, A2, A3, A4⟩; have S3 := hide (And.intro A1 (And.intro A2 (And.intro A3 A4))); clear A1 A2 A3 A4) | (go_at_call 18; refine (newReader_any _ _ l (HB.out.plain.later S1.out.2.2.2) (by omega)).mono ?_; rintro e w2 ⟨r2, rfl, A1, A2, A3, A4⟩; have S2 := hide (And.intro A1 (And.intro A2 (And.intro A3 A4))); clear A1 A2 A3 A4) | (go_at_call 18; refine (newReader_any _ _ l HB.out.plain (by omega)).mono ?_; rintro e w1 ⟨r1, rfl, A1, A2, A3, A4⟩; have S1 := hide (And.intro A1 (And.intro A2 (And.intro A3 A4))); clear A1 A2 A3 A4) | (go_at_call 17; refine (heads_any _).mono ?_; rintro e w4 ⟨rfl, A1⟩; have T := hide (three_mk S1.out S2.out S3.out A1); clear A1))
  clear S1 S2 S3
  go_wp2_with (first | (go_at_call 22; refine (oneU T.out HF.out).mono ?_; rintro e w5 ⟨rfl, A1, A2⟩; have B2 := hide A2; clear A1 A2) | (go_at_call 24; refine (oneV B2.out HF.out).mono ?_; rintro e w6 ⟨rfl, A1, A2⟩; have C2 := hide A2; clear A1 A2) | (go_at_call 26; refine (oneT C2.out).mono ?_; rintro e w7 ⟨rfl, A1, A2⟩; have D2 := hide A2; clear A1 A2))
  go_ret
  exact ⟨rfl, D2.out⟩

end Go.Proofs.Ytfgcpkbbneicfaa
