/- The reference's numbers and names of bytes: plain mathematics. -/
import Derived.Test.YtcedpdneanjbkaaGreatDoorGOctet
import Derived.Test.YtcedpdneanjbkaaGreatDoorGGvA
import Derived.Deep.QuietTactic
import Derived.BigQuiet
import Derived.Lib.Agree
import Derived.Test.YtcedpdneanjbkaaGreatDoorGHBase
import Derived.Test.YtcedpdneanjbkaaGreatDoorGEC
namespace Go.Proofs.YtcedpdneanjbkaaGreatDoor
open Go.RowKit

/-- A number, seven bits a byte, of at most so many bytes; what is behind it. -/
def take6G : Nat → Nat → Nat → List UInt8 → Option (Nat × List UInt8)
  | 0, _, _, _ => none
  | _ + 1, _, _, [] => none
  | n + 1, k, acc, x :: t => if x.toNat < 128 then some (acc + x.toNat % 128 * 2 ^ (7 * k), t) else take6G n (k + 1) (acc + x.toNat % 128 * 2 ^ (7 * k)) t
def take6M (l : List UInt8) : Option (Nat × List UInt8) := take6G 4 0 0 l
/-- A name, and what is behind it. -/
def word6M (l : List UInt8) : Option (List UInt8 × List UInt8) := match take6M l with
  | none => none
  | some (n, r) => if n ≤ r.length then some (r.take n, r.drop n) else none
theorem take6G_len : ∀ (f k acc : Nat) (l : List UInt8) (n : Nat) (r : List UInt8), take6G f k acc l = some (n, r) → r.length < l.length
  | 0, _, _, _, _, _, h => by cases h
  | f + 1, k, acc, [], _, _, h => by cases h
  | f + 1, k, acc, x :: t, n, r, h => by
    rw [take6G] at h
    split at h
    · simp only [Option.some.injEq, Prod.mk.injEq] at h
      rw [← h.2, List.length_cons]
      omega
    · have := take6G_len f _ _ t n r h
      rw [List.length_cons]
      omega
theorem word6M_len {l p r : List UInt8} (h : word6M l = some (p, r)) : r.length < l.length ∧ p.length ≤ l.length := by
  unfold word6M at h
  cases ht : take6M l with
  | none => rw [ht] at h; cases h
  | some z =>
    obtain ⟨n, r0⟩ := z
    rw [ht] at h
    simp only at h
    have := take6G_len 4 0 0 l n r0 ht
    split at h
    · simp only [Option.some.injEq, Prod.mk.injEq] at h
      obtain ⟨rfl, rfl⟩ := h
      rw [List.length_drop, List.length_take]
      omega
    · cases h
end Go.Proofs.YtcedpdneanjbkaaGreatDoor

/- The reference's take and word. -/
namespace Go.Proofs.YtcedpdneanjbkaaGreatDoor
open Go.RowKit

theorem mask7_6 (n : Nat) (h : n < 256) : bits .and .u8 (n : Int) 127 = (n : Int) % 128 := by
  have h1 := u8_and_nat n 127 h (by decide)
  rw [nat_mask7] at h1
  rw [show (127 : Int) = ((127 : Nat) : Int) from rfl, h1]
  omega
def Acc6 (acc n k : Nat) : Prop := bits .or .i64 (acc : Int) (wrap64 ((n : Int) % 128 * 2 ^ (7 * k))) = ((acc + n % 128 * 2 ^ (7 * k) : Nat) : Int)
theorem acc6 (acc n k : Nat) (hk : k ≤ 3) (hacc : acc < 2 ^ (7 * k)) : Acc6 acc n k := by
  unfold Acc6
  have h1 : (2 : Nat) ^ (7 * k) ≤ 2 ^ 21 := Nat.pow_le_pow_right (by decide) (by omega)
  have h2 : n % 128 * 2 ^ (7 * k) ≤ 127 * 2 ^ 21 := Nat.mul_le_mul (by omega) h1
  have h3 : (n : Int) % 128 * 2 ^ (7 * k) = ((n % 128 * 2 ^ (7 * k) : Nat) : Int) := by push_cast; rfl
  have h4 : wrap64 ((n % 128 * 2 ^ (7 * k) : Nat) : Int) = ((n % 128 * 2 ^ (7 * k) : Nat) : Int) := by unfold wrap64; omega
  rw [h3, h4]
  have h := (bits_nat .i64 62 (by decide) (fun n h0 h1 => by rw [IntKind.wrap_i64]; omega) acc (n % 128 * 2 ^ (7 * k)) (by omega) (by omega)).2
  have e : acc ||| n % 128 * 2 ^ (7 * k) = acc + n % 128 * 2 ^ (7 * k) := by
    rw [Nat.or_comm, Nat.mul_comm, ← Nat.two_pow_add_eq_or_of_lt hacc, Nat.add_comm]
  rw [e] at h
  exact h
/-- What take answers. -/
def Tk6 (w : World) (B : Nat) (a : Option Addr) (c : Nat) (l : List UInt8) (e : Ending) (w' : World) : Prop := Below w.heap.size w w' ∧ match take6M l with
  | some (n, r) => ∃ a' c', e = .returned (.tuple #[.int .i64 n, .slice a' r.length c', .bool true]) ∧ BytesIn w 0 B (.slice a' r.length c') r
  | none => e = .returned (.tuple #[.int .i64 0, .slice a l.length c, .bool false])
set_option maxRecDepth 100000 in
set_option maxHeartbeats 4000000 in
theorem take6_k (w : World) (B : Nat) (a : Option Addr) (c : Nat) (l : List UInt8) (hB : BytesIn w 0 B (.slice a l.length c) l) (_hl : l.length ≤ 1000000000000) :
    Calls Tryz.prog 43 #[.slice a l.length c] w fun e w' => Tk6 w B a c l e w' := by
  have hel := hB.plain.elim
  have HB := hide hB
  clear hB
  go_enter Tryz.func43, Tryz.ntmps43
  go_wp2
  go_loopw [5, 6] (fun t i wr => ∃ k acc : Nat, wr = w ∧ k ≤ l.length ∧ k ≤ 4 ∧ acc < 2 ^ (7 * k) ∧ i = .int .i64 k ∧ t = .int .i64 acc ∧ take6G (4 - k) k acc (l.drop k) = take6M l) (fun _ i _ => l.length - (Lib.intOf i).toNat)
  case atStart => exact ⟨0, 0, rfl, Nat.zero_le _, by omega, by decide, rfl, rfl, rfl⟩
  case round =>
    obtain ⟨k, acc, rfl, hk, hk4, hacc, rfl, rfl, hfr⟩ := hrel
    by_cases hk3 : k < 4
    · by_cases hlt : k < l.length
      · have hcell : ∃ b off, a = some ⟨b, off, none⟩ ∧ wr.cell? ⟨b, off + k, none⟩ = some (.int .u8 (l[k].toNat : Int)) := by
          rcases hel with ⟨e, _⟩ | ⟨_, b, off, c', e, h7⟩
          · rw [e] at hlt; simp at hlt
          · simp only [Value.slice.injEq] at e
            exact ⟨b, off, e.1, h7 k hlt⟩
        obtain ⟨b, off, rfl, hcell⟩ := hcell
        obtain ⟨f, hf⟩ : ∃ f, 4 - k = f + 1 := ⟨3 - k, by omega⟩
        rw [List.drop_eq_getElem_cons hlt, hf] at hfr
        simp only [take6G] at hfr
        have hf' : f = 4 - (k + 1) := by omega
        subst hf'
        generalize l[k] = x at hcell hfr
        have hx : x.toNat < 256 := x.toNat_lt
        generalize x.toNat = n at *
        have HA := hide (acc6 acc n k (by omega) hacc)
        have HA2 : Hid (acc + n % 128 * 2 ^ (7 * k) < 2 ^ (7 * (k + 1))) := hide (by
          have e2 : 2 ^ (7 * (k + 1)) = 128 * 2 ^ (7 * k) := by rw [Nat.mul_add, Nat.pow_add]; omega
          rw [e2]
          have : n % 128 * 2 ^ (7 * k) ≤ 127 * 2 ^ (7 * k) := Nat.mul_le_mul_right _ (by omega)
          omega)
        have hand := mask7_6 n hx
        have hw := (show IntKind.i64.wrap ((n : Int) % 128) = (n : Int) % 128 by rw [IntKind.wrap_i64]; omega)
        have hF := hide hfr
        clear hel hf hfr hacc
        by_cases h128 : n < 128
        · have HT : Hid (take6M l = some (acc + n % 128 * 2 ^ (7 * k), l.drop (k + 1))) := hide (by have := hF.out; rw [if_pos h128] at this; exact this.symm)
          clear hF
          go_wp2
          go_quiet (fail)
          go_wp2
          all_goals
            go_ret3
            unfold Tk6
            rw [HT.out]
            refine ⟨⟨rfl, rfl, rfl, Nat.le_refl _, fun _ _ => rfl⟩, _, _, ?_, by first | exact (by have := HB.out.drop_same hlt ‹_›; rw [List.length_drop]; exact this) | exact (by have := HB.out.drop_more hlt ‹_›; rw [List.length_drop]; exact this)⟩
            rw [← HA.out, List.length_drop]
            rfl
        · have HT : Hid (take6G (4 - (k + 1)) (k + 1) (acc + n % 128 * 2 ^ (7 * k)) (l.drop (k + 1)) = take6M l) := hide (by have := hF.out; rw [if_neg h128] at this; exact this)
          clear hF
          go_wp2
          go_roundw
          case rel => exact ⟨k + 1, _, by first | rfl | trivial, by omega, by omega, HA2.out, by go_num, congrArg (Value.int .i64) HA.out, HT.out⟩
          case measure => simp [Lib.intOf]; omega
      · have HT : Hid (take6M l = none) := hide (by
          rw [List.drop_of_length_le (by omega)] at hfr
          obtain ⟨f, hf⟩ : ∃ f, 4 - k = f + 1 := ⟨3 - k, by omega⟩
          rw [hf] at hfr
          exact hfr.symm)
        have hd : ¬ ((k : Int) < (l.length : Int)) := by omega
        clear hel hfr hacc
        go_wp2
        go_ret3
        unfold Tk6
        rw [HT.out]
        exact ⟨⟨rfl, rfl, rfl, Nat.le_refl _, fun _ _ => rfl⟩, rfl⟩
    · have HT : Hid (take6M l = none) := hide (by
        obtain rfl : k = 4 := by omega
        exact hfr.symm)
      clear hel hfr hacc
      go_wp2
      go_ret3
      unfold Tk6
      rw [HT.out]
      exact ⟨⟨rfl, rfl, rfl, Nat.le_refl _, fun _ _ => rfl⟩, rfl⟩
/-- What word answers. -/
def Wd6 (w : World) (B : Nat) (a : Option Addr) (c : Nat) (l : List UInt8) (e : Ending) (w' : World) : Prop := Below w.heap.size w w' ∧ match word6M l with
  | some (p, r) => ∃ a' c', e = .returned (.tuple #[.string (bsN p), .slice a' r.length c', .bool true]) ∧ BytesIn w 0 B (.slice a' r.length c') r
  | none => e = .returned (.tuple #[.string ⟨#[]⟩, .slice a l.length c, .bool false])
set_option maxRecDepth 100000 in
set_option maxHeartbeats 4000000 in
theorem word6R_k (w : World) (B : Nat) (hBw : B ≤ w.heap.size) (a : Option Addr) (c : Nat) (l : List UInt8) (hB : BytesIn w 0 B (.slice a l.length c) l) (hl : l.length ≤ 1000000000000) :
    Calls Tryz.prog 44 #[.slice a l.length c] w fun e w' => Wd6 w B a c l e w' := by
  have HK := hide (take6_k w B a c l hB hl)
  unfold Tk6 at HK
  cases ht : take6M l with
  | none =>
    rw [ht] at HK
    have HT : Hid (word6M l = none) := hide (by unfold word6M; rw [ht])
    simp only at HK
    go_enter Tryz.func44, Tryz.ntmps44
    go_wp2_with (go_at_call 43; refine HK.out.mono ?_; clear HK; rintro e w1 ⟨b1, rfl⟩; have B1 := hide b1; clear b1)
    go_ret3
    unfold Wd6
    rw [HT.out]
    exact ⟨B1.out, rfl⟩
  | some z =>
    obtain ⟨n, r⟩ := z
    rw [ht] at HK
    simp only at HK
    have hrl := take6G_len 4 0 0 l n r ht
    by_cases hn : n ≤ r.length
    · have HT : Hid (word6M l = some (r.take n, r.drop n)) := hide (by unfold word6M; rw [ht]; simp only; rw [if_pos hn])
      have hni : ¬ ((r.length : Int) < (n : Int)) := by omega
      have hni2 : (n : Int) ≤ (r.length : Int) := by omega
      clear ht
      go_enter Tryz.func44, Tryz.ntmps44
      go_wp2_with (go_at_call 43; refine HK.out.mono ?_; clear HK; rintro e w1 ⟨b1, a1, c1, rfl, h1⟩; have hnc : (n : Int) ≤ (c1 : Int) := (by obtain ⟨x, y, e, h2, h3, _⟩ := h1; cases e; omega); have hnc2 : n ≤ c1 := (by omega); have hcv : ∀ m : Nat, (convert 33 9 (.slice a1 n c1)).run Tryz.prog (w1.drewN m) = .ok (.string (bytesOf (r.take n))) (w1.drewN m) := fun m => conv_bytes ((h1.mono (w' := w1.drewN m) (fun b o _ hb => b1.cell (p := ⟨b, o, none⟩) (by show b < w.heap.size; omega)) (Nat.le_refl _) (Nat.le_refl _)).take hn).plain; have HB1 := hide (And.intro b1 h1); clear b1 h1)
      go_quiet (fail)
      go_wp2
      all_goals
        go_ret3
        unfold Wd6
        rw [HT.out]
        refine ⟨⟨HB1.out.1.os, HB1.out.1.tape, HB1.out.1.output, HB1.out.1.size, HB1.out.1.block⟩, _, _, ?_, by first | exact (by have := HB1.out.2.drop_same hn ‹_›; rw [List.length_drop]; exact this) | exact (by have := HB1.out.2.drop_more hn ‹_›; rw [List.length_drop]; exact this)⟩
        rw [List.length_drop]
        rfl
    · have HT : Hid (word6M l = none) := hide (by unfold word6M; rw [ht]; simp only; rw [if_neg hn])
      have hni : (r.length : Int) < (n : Int) := by omega
      clear ht
      go_enter Tryz.func44, Tryz.ntmps44
      go_wp2_with (go_at_call 43; refine HK.out.mono ?_; clear HK; rintro e w1 ⟨b1, a1, c1, rfl, h1⟩; have B1 := hide b1; clear b1 h1)
      go_ret3
      unfold Wd6
      rw [HT.out]
      exact ⟨B1.out, rfl⟩
end Go.Proofs.YtcedpdneanjbkaaGreatDoor

/- What the reference reads of bytes, and that it takes what the program takes: plain mathematics. -/
namespace Go.Proofs.YtcedpdneanjbkaaGreatDoor
open Go.RowKit
open Go.Lib (uvarint uvarint_small uvarint_big uvarint_pos)

def rdVal (k : Int) (p o q : List UInt8) (r : List UInt8) : Option (Evn × List UInt8) := match decVal6 r with
  | none => none
  | some (v, m) => some (⟨k, p, o, q, v, 0, 0, 0⟩, r.drop m)
/-- An event, and what is behind it. -/
def rdEv : List UInt8 → Option (Evn × List UInt8)
  | [] => none
  | k :: t => match word6M t with
    | none => none
    | some (p, r1) => if k.toNat = 1 then match word6M r1 with
        | none => none
        | some (o, r2) => match word6M r2 with
          | none => none
          | some (q, r3) => rdVal 1 p o q r3
      else rdVal k.toNat p [] [] r1
def rdEvs : Nat → List UInt8 → Option (List Evn × List UInt8)
  | 0, l => some ([], l)
  | n + 1, l => match rdEv l with
    | none => none
    | some (e, r) => match rdEvs n r with
      | none => none
      | some (es, r') => some (e :: es, r')
def rdL (b : List UInt8) : Option (List Evn) := match take6M b with
  | none => none
  | some (n, r) => if n ≤ r.length then match rdEvs n r with
      | none => none
      | some (es, _) => some es
    else none

/- The program's bytes are those of its events. -/
theorem decVal6_bytes {l : List UInt8} {v : Vl} {p : Nat} (h : decVal6 l = some (v, p)) : l = encV v ++ l.drop p := by
  obtain ⟨hr, _, _⟩ := decVal6_ok h
  unfold decVal6 at h
  cases hd : decM l 4097 0 0 with
  | none => rw [hd] at h; cases h
  | some z =>
    obtain ⟨v', q, q'⟩ := z
    rw [hd] at h
    simp only at h
    split at h
    · simp only [Option.some.injEq, Prod.mk.injEq] at h
      obtain ⟨rfl, rfl⟩ := h
      obtain ⟨_, _, h3⟩ := dec_bytes hd ((rightV_is v').1 hr).2.2
      rw [← h3, List.take_append_drop]
    · cases h
theorem text_whole {l : List UInt8} (h : textErr l = 0) : l = txt (bsN (textOf l)) ++ textRest l := by
  obtain ⟨h1, h2, _⟩ := text_one l h
  obtain ⟨p, hp, e⟩ := textRest_drop (l := l) (r := l) ⟨0, Nat.zero_le _, rfl⟩
  have hlen : (textRest l).length = l.length - p := by rw [e, List.length_drop]
  have hk : l.length - (textRest l).length = p := by omega
  rw [hk] at h1
  have h1' : txt (bsN (textOf l)) = l.take p := h1
  rw [h1', e, List.take_append_drop]
theorem decEv6_bytes {l r : List UInt8} {e : Evn} (h : decEv6 l = some (e, r)) : l = encE e ++ r := by
  unfold decEv6 at h
  cases hh : decHead6 l with
  | none => rw [hh] at h; cases h
  | some z =>
    obtain ⟨e0, r0⟩ := z
    rw [hh] at h
    simp only at h
    split at h
    · rename_i hf
      cases hv : decVal6 r0 with
      | none => rw [hv] at h; cases h
      | some y =>
        obtain ⟨v, p⟩ := y
        rw [hv] at h
        simp only [Option.some.injEq, Prod.mk.injEq] at h
        obtain ⟨rfl, rfl⟩ := h
        have hb := decVal6_bytes hv
        cases l with
        | nil => cases hh
        | cons k t =>
          simp only [decHead6] at hh
          split at hh
          · rename_i t0
            split at hh
            · rename_i hk
              split at hh
              · rename_i t1
                split at hh
                · rename_i t2
                  simp only [Option.some.injEq, Prod.mk.injEq] at hh
                  obtain ⟨rfl, rfl⟩ := hh
                  have e0 := text_whole t0
                  have e1 := text_whole t1
                  have e2 := text_whole t2
                  have hk1 : k = 1 := UInt8.toNat_inj.1 (by rw [hk]; rfl)
                  subst hk1
                  unfold encE
                  simp only [if_true, List.cons_append, List.append_assoc]
                  rw [← hb, ← e2, ← e1, ← e0]
                  rfl
                · cases hh
              · cases hh
            · rename_i hk
              simp only [Option.some.injEq, Prod.mk.injEq] at hh
              obtain ⟨rfl, rfl⟩ := hh
              have e0 := text_whole t0
              rcases framed_kind hf with h1 | ⟨h2, _, _⟩
              · simp only at h1; omega
              · simp only at h2
                have hk2 : k = 2 := UInt8.toNat_inj.1 (by show k.toNat = 2; omega)
                subst hk2
                unfold encE
                rw [if_neg (by simp only; decide)]
                simp only [List.nil_append, List.cons_append, List.append_assoc]
                rw [← hb, ← e0]
                rfl
          · cases hh
    · cases h
theorem decEvs6_bytes : ∀ (n : Nat) (l r : List UInt8) (es : List Evn), decEvs6 n l = some (es, r) → l = (es.map encE).flatten ++ r ∧ es.length = n
  | 0, l, r, es, h => by
    simp only [decEvs6, Option.some.injEq, Prod.mk.injEq] at h
    obtain ⟨rfl, rfl⟩ := h
    exact ⟨rfl, rfl⟩
  | n + 1, l, r, es, h => by
    rw [decEvs6] at h
    cases he : decEv6 l with
    | none => rw [he] at h; cases h
    | some z =>
      obtain ⟨e, r1⟩ := z
      rw [he] at h
      simp only at h
      cases hs : decEvs6 n r1 with
      | none => rw [hs] at h; cases h
      | some y =>
        obtain ⟨es', r2⟩ := y
        rw [hs] at h
        simp only [Option.some.injEq, Prod.mk.injEq] at h
        obtain ⟨rfl, rfl⟩ := h
        obtain ⟨k1, k2⟩ := decEvs6_bytes n r1 r2 es' hs
        refine ⟨?_, by rw [List.length_cons, k2]⟩
        rw [List.map_cons, List.flatten_cons, List.append_assoc, ← k1]
        exact decEv6_bytes he
theorem decL6_bytes {b : List UInt8} {es : List Evn} (h : decL6 b = some es) : b = encL es := by
  unfold decL6 at h
  split at h
  · rename_i hf
    cases hs : decEvs6 (front b).1 (b.drop (front b).2.1) with
    | none => rw [hs] at h; cases h
    | some y =>
      obtain ⟨es', r2⟩ := y
      rw [hs] at h
      simp only at h
      split at h
      · rename_i hr
        simp only [Option.some.injEq] at h
        subst h
        obtain ⟨k1, k2⟩ := decEvs6_bytes _ _ _ _ hs
        have hr2 : r2 = [] := List.length_eq_zero_iff.1 hr
        rw [hr2, List.append_nil] at k1
        obtain ⟨f1, _⟩ := front_zero hf
        unfold encL
        rw [k2, f1, ← k1, List.take_append_drop]
      · cases h
  · cases h
/- What the program takes, the reference reads. -/
theorem take6G_uv : ∀ (f k acc n : Nat) (r : List UInt8), n < 128 ^ (f + 1) → take6G (f + 1) k acc (uvarint n ++ r) = some (acc + n * 2 ^ (7 * k), r) := by
  have low : ∀ (f k acc n : Nat) (r : List UInt8), n < 128 → take6G (f + 1) k acc (uvarint n ++ r) = some (acc + n * 2 ^ (7 * k), r) := fun f k acc n r h1 => by
    have hx : (n.toUInt8).toNat = n := by simp; omega
    rw [uvarint_small h1]
    simp only [List.cons_append, List.nil_append, take6G]
    rw [hx, if_pos h1, Nat.mod_eq_of_lt h1]
  intro f
  induction f with
  | zero => exact fun k acc n r h => low 0 k acc n r (by simpa using h)
  | succ f ih =>
    intro k acc n r h
    by_cases h1 : n < 128
    · exact low (f + 1) k acc n r h1
    · have hx : ((n % 128 + 128).toUInt8).toNat = n % 128 + 128 := by simp; omega
      have ih := ih (k + 1) (acc + n % 128 * 2 ^ (7 * k)) (n / 128) r (by rw [Nat.pow_succ] at h; exact Nat.div_lt_of_lt_mul (by omega))
      rw [uvarint_big (by omega)]
      simp only [List.cons_append]
      rw [take6G, hx, if_neg (by omega)]
      have e1 : (n % 128 + 128) % 128 = n % 128 := by omega
      rw [e1, ih]
      have e2 : 2 ^ (7 * (k + 1)) = 128 * 2 ^ (7 * k) := by rw [Nat.mul_add, Nat.pow_add]; omega
      have e3 : n = n % 128 + n / 128 * 128 := by omega
      rw [e2]
      congr 2
      conv => rhs; rw [e3]
      rw [Nat.add_mul, Nat.mul_assoc, Nat.add_assoc]
theorem take6M_uv (n : Nat) (h : n < 268435456) (r : List UInt8) : take6M (uvarint n ++ r) = some (n, r) := by
  unfold take6M
  rw [take6G_uv 3 0 0 n r (by omega)]
  simp
theorem word6M_txt (t : List UInt8) (ht : t.length ≤ 1048576) (r : List UInt8) : word6M (txt (bsN t) ++ r) = some (t, r) := by
  unfold word6M txt
  have e : (bsN t).data.toList = t := rfl
  rw [bsN_size, e, List.append_assoc, take6M_uv _ (by omega)]
  simp only
  rw [if_pos (by rw [List.length_append]; omega), List.take_left' rfl, List.drop_left' rfl]
theorem rdVal_enc {v : Vl} (hr : rightV v = true) (hok : ∀ m, okD m v) (k : Int) (p o q r : List UInt8) : rdVal k p o q (encV v ++ r) = some (⟨k, p, o, q, v, 0, 0, 0⟩, r) := by
  unfold rdVal
  rw [decVal6_enc hr hok r]
  simp only [List.drop_left]
theorem rdEv_enc {e : Evn} (hr : rightE e = true) (ho : EvOk e) (hok : ∀ m, okD m e.val) (r : List UInt8) : rdEv (encE e ++ r) = some (unsE e, r) := by
  obtain ⟨hf, hv⟩ := right_parts hr
  obtain ⟨ek, ep, eo, eq, ev, e1, e2, e3⟩ := e
  simp only at hv hok
  rcases framed_kind hf with hk | ⟨hk, hob, hop⟩
  · simp only at hk
    subst hk
    have he : encE ⟨1, ep, eo, eq, ev, e1, e2, e3⟩ ++ r = 1 :: (txt (bsN ep) ++ (txt (bsN eo) ++ (txt (bsN eq) ++ (encV ev ++ r)))) := by
      unfold encE
      simp
    rw [he]
    simp only [rdEv]
    rw [word6M_txt ep ho.proc]
    simp only
    rw [if_pos (by decide), word6M_txt eo ho.obj]
    simp only
    rw [word6M_txt eq ho.op]
    simp only
    rw [rdVal_enc hv hok]
    rfl
  · simp only at hk hob hop
    subst hk hob hop
    have he : encE ⟨2, ep, [], [], ev, e1, e2, e3⟩ ++ r = 2 :: (txt (bsN ep) ++ (encV ev ++ r)) := by
      unfold encE
      simp
    rw [he]
    simp only [rdEv]
    rw [word6M_txt ep ho.proc]
    simp only
    rw [if_neg (by decide), rdVal_enc hv hok]
    rfl
theorem rdEvs_enc : ∀ (l : List Evn) (r : List UInt8), (∀ e ∈ l, rightE e = true ∧ EvOk e ∧ ∀ m, okD m e.val) → rdEvs l.length ((l.map encE).flatten ++ r) = some (l.map unsE, r)
  | [], r, _ => rfl
  | e :: l, r, h => by
    have h0 := h e (by simp)
    have ih := rdEvs_enc l r (fun x hx => h x (by simp [hx]))
    rw [List.length_cons, List.map_cons, List.flatten_cons, List.append_assoc, rdEvs, rdEv_enc h0.1 h0.2.1 h0.2.2]
    simp only
    rw [ih]
    rfl
theorem encE_pos (e : Evn) : 1 ≤ (encE e).length := by unfold encE; rw [List.length_cons]; omega
theorem flat_pos : ∀ l : List Evn, l.length ≤ ((l.map encE).flatten).length
  | [] => Nat.le_refl _
  | e :: l => by
    have h1 := encE_pos e
    have h2 := flat_pos l
    rw [List.map_cons, List.flatten_cons, List.length_append, List.length_cons]
    omega
theorem rdL_enc {l : List Evn} (hl : l.length < 268435456) (h : ∀ e ∈ l, rightE e = true ∧ EvOk e ∧ ∀ m, okD m e.val) : rdL (encL l) = some (l.map unsE) := by
  unfold rdL encL
  rw [take6M_uv _ hl]
  simp only
  rw [if_pos (flat_pos l)]
  have := rdEvs_enc l [] h
  rw [List.append_nil] at this
  rw [this]
/- What is read is in order, all the way down. -/
theorem its_mem {g : Nat → Nat → Option (Vl × Nat × Nat)} : ∀ (k p q : Nat) (xs : List Vl) (t : Nat × Nat), itsM g k p q = some (xs, t) → ∀ x ∈ xs, ∃ p' q' y, g p' q' = some (x, y)
  | 0, p, q, xs, t, h, x, hx => by
    simp only [itsM, Option.some.injEq, Prod.mk.injEq] at h
    rw [← h.1] at hx
    cases hx
  | k + 1, p, q, xs, t, h, x, hx => by
    rw [itsM] at h
    cases hg : g p q with
    | none => rw [hg] at h; cases h
    | some z =>
      obtain ⟨v, p1, q1⟩ := z
      rw [hg] at h
      simp only at h
      cases hs : itsM g k p1 q1 with
      | none => rw [hs] at h; cases h
      | some y =>
        obtain ⟨ys, r⟩ := y
        rw [hs] at h
        simp only [Option.some.injEq, Prod.mk.injEq] at h
        obtain ⟨rfl, rfl⟩ := h
        rcases List.mem_cons.1 hx with rfl | hx
        · exact ⟨p, q, _, hg⟩
        · exact its_mem k p1 q1 ys r hs x hx
theorem decM_okD (l : List UInt8) : ∀ (n p q : Nat) (v : Vl) (r : Nat × Nat), decM l n p q = some (v, r) → ∀ m, okD m v
  | 0, p, q, v, r, h, _ => by simp [decM] at h
  | n + 1, p, q, v, r, h, m => by
    have h0 := decM_ok h
    cases m with
    | zero => trivial
    | succ m =>
      refine ⟨h0, fun x hx => ?_⟩
      simp only [decM] at h
      split at h
      · cases h
      · cases e : headM (seen l p) with
        | none => rw [e] at h; cases h
        | some t =>
          obtain ⟨u, k, t⟩ := t
          rw [e] at h
          simp only at h
          cases hi : itsM (decM l n) k (p + ((seen l p).length - t.length)) (q + 1) with
          | none => rw [hi] at h; cases h
          | some y =>
            obtain ⟨ys, r'⟩ := y
            rw [hi] at h
            simp only [Option.some.injEq, Prod.mk.injEq] at h
            obtain ⟨rfl, rfl⟩ := h
            obtain ⟨p', q', y, hg⟩ := its_mem _ _ _ _ _ hi x hx
            exact decM_okD l n p' q' x y hg m
theorem decVal6_okD {l : List UInt8} {v : Vl} {p : Nat} (h : decVal6 l = some (v, p)) : ∀ m, okD m v := by
  unfold decVal6 at h
  cases hd : decM l 4097 0 0 with
  | none => rw [hd] at h; cases h
  | some z =>
    obtain ⟨v', q, q'⟩ := z
    rw [hd] at h
    simp only at h
    split at h
    · simp only [Option.some.injEq, Prod.mk.injEq] at h
      obtain ⟨rfl, rfl⟩ := h
      exact decM_okD l 4097 0 0 v' _ hd
    · cases h
/-- What an event that was read holds. -/
def RdOk (e : Evn) : Prop := EvOk e ∧ rightV e.val = true ∧ (∀ m, okD m e.val) ∧ e.val.size ≤ 1000000000 ∧ unsE e = e
theorem rdVal_ok {k : Int} {p o q r : List UInt8} {e : Evn} {r' : List UInt8} (hp : p.length ≤ 1048576) (ho : o.length ≤ 1048576) (hq : q.length ≤ 1048576) (h : rdVal k p o q r = some (e, r')) : RdOk e ∧ r'.length ≤ r.length ∧ e.kind = k ∧ e.proc = p ∧ e.obj = o ∧ e.op = q := by
  unfold rdVal at h
  cases hv : decVal6 r with
  | none => rw [hv] at h; cases h
  | some z =>
    obtain ⟨v, m⟩ := z
    rw [hv] at h
    simp only [Option.some.injEq, Prod.mk.injEq] at h
    obtain ⟨rfl, rfl⟩ := h
    obtain ⟨h1, h2, _⟩ := decVal6_ok hv
    have := right_size h1
    exact ⟨⟨⟨hp, ho, hq, h2⟩, h1, decVal6_okD hv, by simp only; omega, rfl⟩, by rw [List.length_drop]; omega, rfl, rfl, rfl, rfl⟩
theorem rdEv_ok {l r : List UInt8} {e : Evn} (hl : l.length ≤ 1048576) (h : rdEv l = some (e, r)) : RdOk e ∧ r.length < l.length := by
  cases l with
  | nil => cases h
  | cons k t =>
    rw [List.length_cons] at hl
    simp only [rdEv] at h
    cases h0 : word6M t with
    | none => rw [h0] at h; cases h
    | some z =>
      obtain ⟨p, r1⟩ := z
      rw [h0] at h
      simp only at h
      obtain ⟨a1, a2⟩ := word6M_len h0
      rw [List.length_cons]
      split at h
      · cases h1 : word6M r1 with
        | none => rw [h1] at h; cases h
        | some z =>
          obtain ⟨o, r2⟩ := z
          rw [h1] at h
          simp only at h
          obtain ⟨b1, b2⟩ := word6M_len h1
          cases h2 : word6M r2 with
          | none => rw [h2] at h; cases h
          | some z =>
            obtain ⟨q, r3⟩ := z
            rw [h2] at h
            simp only at h
            obtain ⟨c1, c2⟩ := word6M_len h2
            obtain ⟨k1, k2, _⟩ := rdVal_ok (by omega) (by omega) (by omega) h
            exact ⟨k1, by omega⟩
      · obtain ⟨k1, k2, _⟩ := rdVal_ok (by omega) (by simp) (by simp) h
        exact ⟨k1, by omega⟩
theorem rdEvs_ok : ∀ (n : Nat) (l r : List UInt8) (es : List Evn), l.length ≤ 1048576 → rdEvs n l = some (es, r) → (∀ e ∈ es, RdOk e) ∧ es.length + r.length ≤ l.length
  | 0, l, r, es, _, h => by
    simp only [rdEvs, Option.some.injEq, Prod.mk.injEq] at h
    obtain ⟨rfl, rfl⟩ := h
    exact ⟨fun e he => by (cases he), by simp⟩
  | n + 1, l, r, es, hl, h => by
    rw [rdEvs] at h
    cases he : rdEv l with
    | none => rw [he] at h; cases h
    | some z =>
      obtain ⟨e, r1⟩ := z
      rw [he] at h
      simp only at h
      obtain ⟨k1, k2⟩ := rdEv_ok hl he
      cases hs : rdEvs n r1 with
      | none => rw [hs] at h; cases h
      | some y =>
        obtain ⟨es', r2⟩ := y
        rw [hs] at h
        simp only [Option.some.injEq, Prod.mk.injEq] at h
        obtain ⟨rfl, rfl⟩ := h
        obtain ⟨j1, j2⟩ := rdEvs_ok n r1 r2 es' (by omega) hs
        refine ⟨fun x hx => ?_, by rw [List.length_cons]; omega⟩
        rcases List.mem_cons.1 hx with rfl | hx
        · exact k1
        · exact j1 x hx
theorem rdL_ok {b : List UInt8} {es : List Evn} (hb : b.length ≤ 1048576) (h : rdL b = some es) : (∀ e ∈ es, RdOk e) ∧ es.length ≤ b.length := by
  unfold rdL at h
  cases ht : take6M b with
  | none => rw [ht] at h; cases h
  | some z =>
    obtain ⟨n, r⟩ := z
    rw [ht] at h
    simp only at h
    have := take6G_len 4 0 0 b n r ht
    split at h
    · cases hs : rdEvs n r with
      | none => rw [hs] at h; cases h
      | some y =>
        obtain ⟨es', r2⟩ := y
        rw [hs] at h
        simp only [Option.some.injEq] at h
        subst h
        obtain ⟨j1, j2⟩ := rdEvs_ok n r r2 es' (by omega) hs
        exact ⟨j1, by omega⟩
    · cases h
/-- The two take the same bytes, and say the same events. -/
theorem rd_some {b : List UInt8} (hb : b.length ≤ 1048576) {es : List Evn} (h : decL6 b = some es) (hes : ∀ e ∈ es, rightE e = true ∧ EvOk e ∧ (∀ m, okD m e.val) ∧ unsE e = e) : rdL b = some es ∧ es.all rightE = true ∧ encL es = b := by
  have he := decL6_bytes h
  have hlen : es.length ≤ b.length := by
    rw [he]
    unfold encL
    have := flat_pos es
    rw [List.length_append]
    omega
  refine ⟨?_, List.all_eq_true.2 fun e h => (hes e h).1, he.symm⟩
  rw [he, rdL_enc (by omega) fun e h => ⟨(hes e h).1, (hes e h).2.1, (hes e h).2.2.1⟩]
  congr 1
  exact (List.map_congr_left (g := id) fun e h => (hes e h).2.2.2).trans (List.map_id _)
theorem rd_none {b : List UInt8} (hb : b.length ≤ 1048576) (h : decL6 b = none) {es : List Evn} (hr : rdL b = some es) : ¬ (es.all rightE = true ∧ encL es = b) := by
  rintro ⟨h1, h2⟩
  obtain ⟨k1, k2⟩ := rdL_ok hb hr
  have := decL6_enc (l := es) (by omega) fun e he => ⟨List.all_eq_true.1 h1 e he, (k1 e he).1, (k1 e he).2.2.1⟩
  rw [h2, h] at this
  cases this
theorem decEvs6_all : ∀ (n : Nat) (l r : List UInt8) (es : List Evn), l.length ≤ 1048576 → decEvs6 n l = some (es, r) → ∀ e ∈ es, rightE e = true ∧ EvOk e ∧ (∀ m, okD m e.val) ∧ unsE e = e
  | 0, l, r, es, _, h => by
    simp only [decEvs6, Option.some.injEq, Prod.mk.injEq] at h
    obtain ⟨rfl, rfl⟩ := h
    exact fun e he => by (cases he)
  | n + 1, l, r, es, hl, h => by
    rw [decEvs6] at h
    cases he : decEv6 l with
    | none => rw [he] at h; cases h
    | some z =>
      obtain ⟨e, r1⟩ := z
      rw [he] at h
      simp only at h
      obtain ⟨a1, a2, a3, _⟩ := decEv6_ok (by omega) he
      have hod : (∀ m, okD m e.val) ∧ unsE e = e := by
        unfold decEv6 at he
        cases hh : decHead6 l with
        | none => rw [hh] at he; cases he
        | some z =>
          obtain ⟨e0, r0⟩ := z
          rw [hh] at he
          simp only at he
          split at he
          · cases hv : decVal6 r0 with
            | none => rw [hv] at he; cases he
            | some y =>
              obtain ⟨v, p⟩ := y
              rw [hv] at he
              simp only [Option.some.injEq, Prod.mk.injEq] at he
              obtain ⟨rfl, rfl⟩ := he
              exact ⟨decVal6_okD hv, rfl⟩
          · cases he
      cases hs : decEvs6 n r1 with
      | none => rw [hs] at h; cases h
      | some y =>
        obtain ⟨es', r2⟩ := y
        rw [hs] at h
        simp only [Option.some.injEq, Prod.mk.injEq] at h
        obtain ⟨rfl, rfl⟩ := h
        have ih := decEvs6_all n r1 r2 es' (by omega) hs
        intro x hx
        rcases List.mem_cons.1 hx with rfl | hx
        · exact ⟨a3, a2, hod.1, hod.2⟩
        · exact ih x hx
theorem decL6_all {b : List UInt8} (hb : b.length ≤ 1048576) {es : List Evn} (h : decL6 b = some es) : ∀ e ∈ es, rightE e = true ∧ EvOk e ∧ (∀ m, okD m e.val) ∧ unsE e = e := by
  unfold decL6 at h
  split at h
  · cases hs : decEvs6 (front b).1 (b.drop (front b).2.1) with
    | none => rw [hs] at h; cases h
    | some y =>
      obtain ⟨es', r2⟩ := y
      rw [hs] at h
      simp only at h
      split at h
      · simp only [Option.some.injEq] at h
        subst h
        exact decEvs6_all _ _ _ _ (by rw [List.length_drop]; omega) hs
      · cases h
  · cases h
end Go.Proofs.YtcedpdneanjbkaaGreatDoor
