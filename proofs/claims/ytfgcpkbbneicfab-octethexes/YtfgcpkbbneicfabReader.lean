/- What each call on a reader answers, and what it does to the reader: nothing else in memory turns. -/
import Derived.Test.YtfgcpkbbneicfabFront
import Derived.Lib.Zigzag
namespace Go.Proofs.Ytfgcpkbbneicfab
open Go.RowKit

/-- A slice of bytes that reads as l; its memory lies in blocks from lo on, below hi. -/
def BytesIn (w : World) (lo hi : Nat) (v : Value) (l : List UInt8) : Prop :=
  ∃ a c, v = .slice a l.length c ∧ l.length ≤ c ∧ c ≤ maxLen ∧ ∀ j (h : j < l.length), ∃ b off, a = some ⟨b, off, none⟩ ∧ lo ≤ b ∧ b < hi ∧ w.cell? ⟨b, off + j, none⟩ = some (.int .u8 (l[j].toNat : Int))

theorem BytesIn.plain {w : World} {lo hi : Nat} {v : Value} {l : List UInt8} (h : BytesIn w lo hi v l) : Bytes w v l := by
  obtain ⟨a, c, rfl, _, _, h⟩ := h
  exact ⟨a, c, rfl, fun j hj => by obtain ⟨b, off, e, _, _, h'⟩ := h j hj; exact ⟨b, off, e, h'⟩⟩

theorem BytesIn.len {w : World} {lo hi : Nat} {v : Value} {l : List UInt8} (h : BytesIn w lo hi v l) : l.length ≤ maxLen := by
  obtain ⟨a, c, rfl, h1, h2, _⟩ := h
  omega

theorem BytesIn.mono {w w' : World} {lo hi lo' hi' : Nat} {v : Value} {l : List UInt8} (h : BytesIn w lo hi v l)
    (hw : ∀ b o, lo ≤ b → b < hi → w'.cell? ⟨b, o, none⟩ = w.cell? ⟨b, o, none⟩) (hlo : lo' ≤ lo) (hhi : hi ≤ hi') : BytesIn w' lo' hi' v l := by
  obtain ⟨a, c, rfl, h1, h2, h⟩ := h
  refine ⟨a, c, rfl, h1, h2, fun j hj => ?_⟩
  obtain ⟨b, off, e, h3, h4, h'⟩ := h j hj
  exact ⟨b, off, e, by omega, by omega, by rw [hw b _ h3 h4]; exact h'⟩

theorem BytesIn.drop {w : World} {lo hi : Nat} {a : Option Addr} {c : Nat} {l : List UInt8} (h : BytesIn w lo hi (.slice a l.length c) l) {n : Nat} (hn : n ≤ l.length) :
    BytesIn w lo hi (sliced a n l.length c 1) (l.drop n) := by
  obtain ⟨a', c', e, h1, h2, h⟩ := h
  simp only [Value.slice.injEq, true_and] at e
  obtain ⟨rfl, rfl⟩ := e
  refine ⟨_, _, by rw [List.length_drop]; rfl, by rw [List.length_drop]; omega, by omega, fun j hj => ?_⟩
  rw [List.length_drop] at hj
  obtain ⟨b, off, rfl, h3, h4, h'⟩ := h (n + j) (by omega)
  have hne : ¬ c = n := by omega
  refine ⟨b, off + n, by simp [hne, Addr.add], h3, h4, ?_⟩
  rw [List.getElem_drop, Nat.add_assoc]
  exact h'

theorem BytesIn.drop_same {w : World} {lo hi : Nat} {a : Option Addr} {c : Nat} {l : List UInt8} (h : BytesIn w lo hi (.slice a l.length c) l) {n : Nat} (hn : n ≤ l.length) (e : c = n) :
    BytesIn w lo hi (.slice a (l.length - n) 0) (l.drop n) := by
  have := h.drop hn
  simpa only [sliced, e, if_true, Nat.sub_self] using this

theorem BytesIn.drop_more {w : World} {lo hi : Nat} {a : Option Addr} {c : Nat} {l : List UInt8} (h : BytesIn w lo hi (.slice a l.length c) l) {n : Nat} (hn : n ≤ l.length) (e : ¬ c = n) :
    BytesIn w lo hi (.slice (a.map fun x => x.add n) (l.length - n) (c - n)) (l.drop n) := by
  have := h.drop hn
  simpa only [sliced, e, if_false, Nat.mul_one] using this

/-- A reader that NewReader made, with l left. -/
def Rd (w : World) (rb lo : Nat) (l : List UInt8) : Prop :=
  w.cell? ⟨rb, 0, none⟩ = some (.bool true) ∧ w.frozen? ⟨rb, 1, none⟩ = false ∧ ∃ v, w.cell? ⟨rb, 1, none⟩ = some v ∧ BytesIn w lo rb v l

theorem Rd.kept {w w' : World} {rb lo : Nat} {l : List UInt8} (h : Rd w rb lo l) (hw : ∀ k, lo ≤ k → k ≤ rb → w'.heap[k]? = w.heap[k]?) (hlo : lo ≤ rb) : Rd w' rb lo l := by
  obtain ⟨h1, h2, v, h3, h4⟩ := h
  have e := hw rb hlo (Nat.le_refl _)
  refine ⟨by rw [World.cell?_of_block (w := w) e]; exact h1, by rw [World.frozen?_of_block (w := w) e]; exact h2, v, by rw [World.cell?_of_block (w := w) e]; exact h3, h4.mono (fun b o hb hb' => World.cell?_of_block (w := w) (hw b hb (by omega))) (Nat.le_refl _) (Nat.le_refl _)⟩

theorem grownBy_refl (w : World) (r : Option Nat) : w.grownBy w r := ⟨rfl, rfl, rfl, Nat.le_refl _, fun _ _ _ => rfl⟩
theorem grownBy_setCell (w : World) (b o : Nat) (v : Value) : w.grownBy (w.setCell ⟨b, o, none⟩ v) (some b) :=
  ⟨rfl, rfl, rfl, by simp [World.setCell], fun k _ hk => Below.heap_setCell _ _ _ _ (fun e => hk (by rw [e]))⟩

theorem cell?_setCell_ne (w : World) (b o b' o' : Nat) (v : Value) (h : b' ≠ b) : (w.setCell ⟨b, o, none⟩ v).cell? ⟨b', o', none⟩ = w.cell? ⟨b', o', none⟩ :=
  World.cell?_of_block (Below.heap_setCell _ _ _ _ h)

theorem Rd.set {w : World} {rb lo : Nat} {l l' : List UInt8} (h : Rd w rb lo l) (v : Value) (hv : BytesIn w lo rb v l') : Rd (w.setCell ⟨rb, 1, none⟩ v) rb lo l' := by
  obtain ⟨h1, h2, v0, h3, h4⟩ := h
  refine ⟨?_, ?_, v, ?_, hv.mono (fun b o hb hb' => cell?_setCell_ne _ _ _ _ _ _ (by omega)) (Nat.le_refl _) (Nat.le_refl _)⟩
  · exact (World.cell?_setCell_other _ _ _ _ (by simp)).trans h1
  · rw [World.frozen?_setCell]; exact h2
  · exact World.cell?_setCell_same _ _ _ h3

theorem front_err : ∀ (l : List UInt8) (i v : Nat), (frontGo i v l).2.2 ≠ 0 → (frontGo i v l).1 = 0 ∧ (frontGo i v l).2.1 = 0
  | [], i, v, _ => by simp [frontGo]
  | c :: r, i, v, h => by
    rw [frontGo] at h ⊢
    split
    · simp
    · rename_i h1
      rw [if_neg h1] at h
      split
      · rename_i h2
        rw [if_pos h2] at h
        exact front_err r _ _ h
      · rename_i h2
        rw [if_neg h2] at h
        split
        · simp
        · rename_i h3
          rw [if_neg h3] at h
          simp at h

theorem front_size : ∀ (l : List UInt8) (i v : Nat), (frontGo i v l).2.1 ≤ i + l.length
  | [], i, v => by simp [frontGo]
  | c :: r, i, v => by
    rw [frontGo]
    split
    · simp
    · split
      · have := front_size r (i + 1) (v + c.toNat % 128 * 2 ^ (7 * i))
        simp only [List.length_cons]
        omega
      · split <;> simp

theorem front_no (l : List UInt8) : (front l).2.2 = 0 ∨ (front l).2.2 = 10 ∨ (front l).2.2 = 12 := by
  have : ∀ (l : List UInt8) (i v : Nat), (frontGo i v l).2.2 = 0 ∨ (frontGo i v l).2.2 = 10 ∨ (frontGo i v l).2.2 = 12 := by
    intro l
    induction l with
    | nil => intro i v; simp [frontGo]
    | cons c r ih =>
      intro i v
      rw [frontGo]
      split
      · simp
      · split
        · exact ih _ _
        · split <;> simp
  exact this l 0 0

theorem front_fits (l : List UInt8) : (front l).2.1 ≤ l.length := by
  have := front_size l 0 0
  unfold front
  omega

theorem usable_yes (w : World) (rb : Nat) (h : w.cell? ⟨rb, 0, none⟩ = some (.bool true)) :
    Calls Try.prog 23 #[.pointer (some ⟨rb, 0, none⟩)] w fun e w' => e = .returned (.bool true) ∧ w' = w := by
  go_enter Try.func23, Try.ntmps23
  go_wp2
  go_ret
  exact ⟨rfl, rfl⟩

theorem ret_two {k1 k2 : IntKind} {a b a' b' : Int} (h1 : a = a') (h2 : b = b') :
    Ending.returned (.tuple #[.int k1 a, .int k2 b]) = .returned (.tuple #[.int k1 a', .int k2 b']) := by rw [h1, h2]

set_option maxRecDepth 100000 in
set_option maxHeartbeats 1000000 in
theorem rUvarint (w : World) (rb lo : Nat) (l : List UInt8) (h : Rd w rb lo l) :
    Calls Try.prog 15 #[.pointer (some ⟨rb, 0, none⟩)] w fun e w' =>
      e = .returned (.tuple #[.int .u64 (front l).1, .int .i64 (front l).2.2]) ∧ Rd w' rb lo (l.drop (front l).2.1) ∧ w.grownBy w' (some rb) := by
  have HR : Hid (Rd w rb lo l) := h
  obtain ⟨h1, h2, v, h3, h4⟩ := h
  have hl := h4.len
  have HP : Hid (Bytes w v l) := h4.plain
  have hfit := front_fits l
  have HE : Hid ((front l).2.2 ≠ 0 → (front l).1 = 0 ∧ (front l).2.1 = 0) := front_err l 0 0
  obtain ⟨a, c, rfl, h5, h6, h7⟩ := id h4
  clear h7
  unfold maxLen at hl h6
  by_cases he : (front l).2.2 = 0
  · generalize hf : front l = f at *
    obtain ⟨x, n, e⟩ := f
    simp only at he hfit ⊢
    subst he
    have HF : Hid (front l = (x, n, 0)) := hf
    clear hf HE
    have HB : Hid (BytesIn w lo rb (.slice a l.length c) l) := h4
    clear h4
    go_enter Try.func15, Try.ntmps15
    go_wp2_with (first | (go_at_call 23; refine (usable_yes _ _ h1).mono ?_; rintro e w' ⟨rfl, rfl⟩) | (go_at_call 24; refine (front_any _ l _ hl HP.out).mono ?_; rintro e w' ⟨rfl, rfl⟩; rw [HF.out]))
    all_goals
      go_ret2
      exact ⟨rfl, HR.out.set _ (by first | exact HB.out.drop_same hfit ‹_› | exact HB.out.drop_more hfit ‹_›), grownBy_setCell _ _ _ _⟩
  · have hz := HE.out he
    obtain ⟨hz1, hz2⟩ := hz
    have hno := front_no l
    rw [hz1, hz2]
    generalize hf : front l = f at *
    obtain ⟨x, n, e⟩ := f
    simp only at he hz1 hz2 hno ⊢
    subst hz1 hz2
    have HF : Hid (front l = (0, 0, e)) := hf
    have he' : 0 < e := by omega
    clear hf HE h4 he hno
    go_enter Try.func15, Try.ntmps15
    go_wp2_with (first | (go_at_call 23; refine (usable_yes _ _ h1).mono ?_; rintro e w' ⟨rfl, rfl⟩) | (go_at_call 24; refine (front_any _ l _ hl HP.out).mono ?_; rintro e w' ⟨rfl, rfl⟩; rw [HF.out]))
    go_ret2
    exact ⟨rfl, HR.out, grownBy_refl _ _⟩

/-- The number with a sign. -/
def unz (u : Nat) : Int := if u % 2 = 0 then ((u / 2 : Nat) : Int) else -((u / 2 : Nat) : Int) - 1

theorem xor_comm_i64 (x y : Int) : bits .xor .i64 x y = bits .xor .i64 y x := by
  show IntKind.i64.wrap ((BitVec.ofInt 64 x ^^^ BitVec.ofInt 64 y).toNat : Int) = IntKind.i64.wrap ((BitVec.ofInt 64 y ^^^ BitVec.ofInt 64 x).toNat : Int)
  rw [BitVec.xor_comm]

theorem xor_zero_i64 (x : Nat) (hx : x < 9223372036854775808) : bits .xor .i64 (x : Int) 0 = (x : Int) := by
  show IntKind.i64.wrap ((BitVec.ofInt 64 (x : Int) ^^^ BitVec.ofInt 64 0).toNat : Int) = _
  have h2 : (BitVec.ofInt 64 (x : Int)).toNat = x := by
    rw [BitVec.ofInt_natCast, BitVec.toNat_ofNat]; exact Nat.mod_eq_of_lt (by omega)
  have h3 : (BitVec.ofInt 64 0).toNat = 0 := by decide
  rw [BitVec.toNat_xor, h2, h3, Nat.xor_zero, IntKind.wrap_i64]
  omega

theorem unz_bits (u : Nat) (hu : u < 18446744073709551616) :
    bits .xor .i64 ((u : Int) / 2) (wrap64 (-wrap64 (bits .and .u64 (u : Int) 1))) = unz u := by
  rw [Lib.u64_and1 _ (by omega) (by omega)]
  have hd : ((u : Int) / 2) = ((u / 2 : Nat) : Int) := by omega
  rw [hd]
  unfold unz
  split
  · rename_i h
    have e : wrap64 (-wrap64 ((u : Int) % 2)) = 0 := by unfold wrap64; omega
    rw [e, xor_zero_i64 _ (by omega)]
  · rename_i h
    have e : wrap64 (-wrap64 ((u : Int) % 2)) = -1 := by unfold wrap64; omega
    rw [e, xor_comm_i64, Lib.i64_not _ (by omega)]

theorem unz_walk (u : Nat) (hu : u < 18446744073709551616) (w : World) :
    Calls Try.prog 25 #[.int .u64 u] w fun e w' => e = .returned (.int .i64 (unz u)) ∧ w' = w := by
  go_enter Try.func25, Try.ntmps25
  go_wp2
  go_ret
  exact ⟨ret_int (unz_bits u hu), rfl⟩

theorem frontGo_lt : ∀ (l : List UInt8) (i v : Nat), i ≤ 9 → v < 2 ^ (7 * i) → (frontGo i v l).1 < 18446744073709551616
  | [], i, v, _, _ => by simp [frontGo]
  | c :: r, i, v, hi, hv => by
    rw [frontGo]
    split
    · decide
    · rename_i h1
      split
      · rename_i h2
        exact frontGo_lt r (i + 1) _ (by omega) (acc_lt v c.toNat i hv)
      · split
        · decide
        · by_cases h9 : i = 9
          · subst h9
            have hc : c.toNat = 1 := by omega
            rw [hc]
            have : v < 9223372036854775808 := hv
            show v + 1 % 128 * 9223372036854775808 < 18446744073709551616
            omega
          · have h := acc_lt v c.toNat i hv
            have h2 : 2 ^ (7 * (i + 1)) ≤ 2 ^ 63 := Nat.pow_le_pow_right (by decide) (by omega)
            show v + c.toNat % 128 * 2 ^ (7 * i) < 18446744073709551616
            have h3 : (2 : Nat) ^ 63 < 18446744073709551616 := by decide
            exact Nat.lt_of_lt_of_le h (Nat.le_trans h2 (Nat.le_of_lt h3))

theorem front_lt (l : List UInt8) : (front l).1 < 18446744073709551616 := frontGo_lt l 0 0 (by decide) (by decide)

set_option maxRecDepth 100000 in
set_option maxHeartbeats 1000000 in
theorem rVarint (w : World) (rb lo : Nat) (l : List UInt8) (h : Rd w rb lo l) :
    Calls Try.prog 16 #[.pointer (some ⟨rb, 0, none⟩)] w fun e w' =>
      e = .returned (.tuple #[.int .i64 (unz (front l).1), .int .i64 (front l).2.2]) ∧ Rd w' rb lo (l.drop (front l).2.1) ∧ w.grownBy w' (some rb) := by
  have HR : Hid (Rd w rb lo l) := h
  clear h
  have HE : Hid ((front l).2.2 ≠ 0 → (front l).1 = 0 ∧ (front l).2.1 = 0) := front_err l 0 0
  have HL : Hid ((front l).1 < 18446744073709551616) := front_lt l
  have hno := front_no l
  by_cases he : (front l).2.2 = 0
  · clear hno
    have HF : Hid ((front l).2.2 = 0) := he
    rw [he]
    clear he
    go_enter Try.func16, Try.ntmps16
    go_wp2_with (first | (go_at_call 15; refine (rUvarint _ _ _ _ HR.out).mono ?_; rintro e w' ⟨rfl, H2, H3⟩; have H2' := show Hid _ from H2; have H3' := show Hid _ from H3; clear H2 H3; rw [HF.out]) | (go_at_call 25; refine (unz_walk _ HL.out _).mono ?_; rintro e w' ⟨rfl, rfl⟩))
    go_ret2
    exact ⟨rfl, H2'.out, H3'.out⟩
  · have hz := HE.out he
    obtain ⟨hz1, hz2⟩ := hz
    have e0 : unz 0 = 0 := rfl
    have he' : 0 < (front l).2.2 := by omega
    rw [hz1, e0]
    have HZ : Hid ((front l).1 = 0) := hz1
    clear hz1 e0 he hno hz2 HE HL
    go_enter Try.func16, Try.ntmps16
    go_wp2_with (go_at_call 15; refine (rUvarint _ _ _ _ HR.out).mono ?_; rintro e w' ⟨rfl, H2, H3⟩; have H2' := show Hid _ from H2; have H3' := show Hid _ from H3; clear H2 H3; rw [HZ.out])
    go_ret2
    exact ⟨rfl, H2'.out, H3'.out⟩

/-- What is left behind a text: none is taken where it does not fit. -/
def textRest (l : List UInt8) : List UInt8 :=
  if (front l).2.2 = 0 ∧ (front l).1 ≤ l.length - (front l).2.1 then l.drop ((front l).2.1 + (front l).1) else l
def textErr (l : List UInt8) : Nat :=
  if (front l).2.2 = 0 ∧ ¬ (front l).1 ≤ l.length - (front l).2.1 then 10 else (front l).2.2
def textOf (l : List UInt8) : List UInt8 :=
  if (front l).2.2 = 0 ∧ (front l).1 ≤ l.length - (front l).2.1 then (l.drop (front l).2.1).take (front l).1 else []
def bytesOf (l : List UInt8) : ByteArray := ⟨l.toArray⟩

theorem slice_low (w : World) (k : IntKind) (a : Option Addr) (c : Nat) {lo hi : Nat} {l : List UInt8} (h : BytesIn w lo hi (.slice a l.length c) l) (n : Nat) (hn : n ≤ l.length) :
    ∃ a' c', (∀ w' : World, (Instr.slice 22 (.slice a l.length c) (some (.int k n)) none none).run Try.prog w' = .ok (.slice a' (l.length - n) c') w') ∧
      BytesIn w lo hi (.slice a' (l.length - n) c') (l.drop n) := by
  refine ⟨_, _, fun w' => ?_, h.drop hn⟩
  rw [run_slice_l (P := Try.prog) w' 22 a l.length c Try.underlying22 k n (by omega) (by omega)]
  rfl

theorem BytesIn.take {w : World} {lo hi : Nat} {a : Option Addr} {c : Nat} {l : List UInt8} (h : BytesIn w lo hi (.slice a l.length c) l) {n : Nat} (hn : n ≤ l.length) :
    BytesIn w lo hi (.slice a n c) (l.take n) := by
  obtain ⟨a', c', e, h1, h2, h⟩ := h
  simp only [Value.slice.injEq, true_and] at e
  obtain ⟨rfl, rfl⟩ := e
  refine ⟨_, _, by rw [List.length_take, Nat.min_eq_left hn], by rw [List.length_take]; omega, by omega, fun j hj => ?_⟩
  rw [List.length_take] at hj
  obtain ⟨b, off, e, h3, h4, h'⟩ := h j (by omega)
  exact ⟨b, off, e, h3, h4, by rw [List.getElem_take]; exact h'⟩

theorem slice_high (w : World) (k : IntKind) (a : Option Addr) (c : Nat) {lo hi : Nat} {l : List UInt8} (h : BytesIn w lo hi (.slice a l.length c) l) (n : Nat) (hn : n ≤ l.length) :
    ∃ a' c', (∀ w' : World, (Instr.slice 22 (.slice a l.length c) none (some (.int k n)) none).run Try.prog w' = .ok (.slice a' n c') w') ∧
      BytesIn w lo hi (.slice a' n c') (l.take n) := by
  obtain ⟨a', c', e, h1, h2, h3⟩ := id h
  simp only [Value.slice.injEq, true_and] at e
  obtain ⟨rfl, rfl⟩ := e
  have hd := h.drop (n := 0) (Nat.zero_le _)
  simp only [sliced, List.drop_zero, Nat.sub_zero] at hd
  refine ⟨_, _, fun w' => ?_, hd.take hn⟩
  rw [run_slice_h (P := Try.prog) w' 22 a l.length c Try.underlying22 k n (by omega) (by omega)]
  rfl

theorem conv_bytes {w : World} {v : Value} {l : List UInt8} (h : Bytes w v l) : (convert 22 9 v).run Try.prog w = .ok (.string (bytesOf l)) w := by
  obtain ⟨a, c, rfl, h⟩ := h
  rcases a with _ | a
  · have : l = [] := by
      rcases l with _ | ⟨x, l⟩
      · rfl
      · obtain ⟨b, off, e, _⟩ := h 0 (by simp)
        cases e
    subst this
    exact run_convert_bytes_nil w 22 5 Try.underlying22 Try.underlying5 _ _ _ Try.underlying9
  · refine run_convert_bytes_back w 22 9 5 a c l Try.underlying22 Try.underlying5 Try.underlying9 ?_
    intro j hj
    obtain ⟨b, off, e, h'⟩ := h j hj
    cases e
    rw [Addr.add_lit]
    exact h'

set_option maxRecDepth 100000 in
set_option maxHeartbeats 1000000 in
theorem rText (w : World) (rb lo : Nat) (l : List UInt8) (h : Rd w rb lo l) :
    Calls Try.prog 17 #[.pointer (some ⟨rb, 0, none⟩)] w fun e w' =>
      e = .returned (.tuple #[.string (bytesOf (textOf l)), .int .i64 (textErr l)]) ∧ Rd w' rb lo (textRest l) ∧ w.grownBy w' (some rb) := by
  have HR : Hid (Rd w rb lo l) := h
  obtain ⟨h1, h2, v, h3, h4⟩ := h
  have hl := h4.len
  have HP : Hid (Bytes w v l) := h4.plain
  have hfit := front_fits l
  have hno := front_no l
  have HE : Hid ((front l).2.2 ≠ 0 → (front l).1 = 0 ∧ (front l).2.1 = 0) := front_err l 0 0
  have hlt : (front l).1 < 18446744073709551616 := front_lt l
  obtain ⟨a, c, rfl, h5, h6, h7⟩ := id h4
  clear h7
  unfold maxLen at hl h6
  by_cases he : (front l).2.2 = 0
  · by_cases hs : (front l).1 ≤ l.length - (front l).2.1
    · have e1 : textOf l = (l.drop (front l).2.1).take (front l).1 := if_pos ⟨he, hs⟩
      have e2 : textErr l = (front l).2.2 := if_neg (fun h => h.2 hs)
      have e3 : textRest l = l.drop ((front l).2.1 + (front l).1) := if_pos ⟨he, hs⟩
      rw [e1, e2, e3, he]
      clear e1 e2 e3
      generalize hf : front l = f at *
      obtain ⟨x, n, e⟩ := f
      simp only at he hfit hs hlt ⊢
      subst he
      have HF : Hid (front l = (x, n, 0)) := hf
      obtain ⟨a1, c1, hs1, hb1⟩ := slice_low w .i64 a c h4 n hfit
      have el : (l.drop n).length = l.length - n := List.length_drop
      rw [← el] at hb1 hs
      obtain ⟨a2, c2, hs2, hb2⟩ := slice_low w .u64 a1 c1 hb1 x hs
      obtain ⟨a3, c3, hs3, hb3⟩ := slice_high w .u64 a1 c1 hb1 x hs
      rw [List.drop_drop] at hb2
      rw [el] at hs2 hs3 hb2 hs
      have HB : Hid (BytesIn w lo rb (.slice a2 (l.length - n - x) c2) (l.drop (n + x))) := hb2
      have hs4 := conv_bytes (hb3.mono (w' := w.setCell ⟨rb, 1, none⟩ (.slice a2 (l.length - n - x) c2)) (fun b o _ hb => cell?_setCell_ne _ _ _ _ _ _ (by omega)) (Nat.le_refl _) (Nat.le_refl _)).plain
      clear hf HE h4 hno hb1 hb2 hb3 el
      go_enter Try.func17, Try.ntmps17
      go_wp2_with (first | (go_at_call 23; refine (usable_yes _ _ h1).mono ?_; rintro e w' ⟨rfl, rfl⟩) | (go_at_call 24; refine (front_any _ l _ hl HP.out).mono ?_; rintro e w' ⟨rfl, rfl⟩; rw [HF.out]))
      go_ret2
      exact ⟨rfl, HR.out.set _ HB.out, grownBy_setCell _ _ _ _⟩
    · have e1 : textOf l = [] := if_neg (fun h => hs h.2)
      have e2 : textErr l = 10 := if_pos ⟨he, hs⟩
      have e3 : textRest l = l := if_neg (fun h => hs h.2)
      rw [e1, e2, e3]
      clear e1 e2 e3
      generalize hf : front l = f at *
      obtain ⟨x, n, e⟩ := f
      simp only at he hfit hs hlt ⊢
      subst he
      have HF : Hid (front l = (x, n, 0)) := hf
      obtain ⟨a1, c1, hs1, hb1⟩ := slice_low w .i64 a c h4 n hfit
      have hgt : l.length - n < x := by omega
      clear hf HE h4 hno hb1 hs
      go_enter Try.func17, Try.ntmps17
      go_wp2_with (first | (go_at_call 23; refine (usable_yes _ _ h1).mono ?_; rintro e w' ⟨rfl, rfl⟩) | (go_at_call 24; refine (front_any _ l _ hl HP.out).mono ?_; rintro e w' ⟨rfl, rfl⟩; rw [HF.out]))
      go_ret2
      exact ⟨rfl, HR.out, grownBy_refl _ _⟩
  · have e1 : textOf l = [] := if_neg (fun h => he h.1)
    have e2 : textErr l = (front l).2.2 := if_neg (fun h => he h.1)
    have e3 : textRest l = l := if_neg (fun h => he h.1)
    rw [e1, e2, e3]
    clear e1 e2 e3
    have hz := HE.out he
    obtain ⟨hz1, hz2⟩ := hz
    generalize hf : front l = f at *
    obtain ⟨x, n, e⟩ := f
    simp only at he hz1 hz2 hno ⊢
    subst hz1 hz2
    have HF : Hid (front l = (0, 0, e)) := hf
    have he' : 0 < e := by omega
    clear hf HE h4 he hno
    go_enter Try.func17, Try.ntmps17
    go_wp2_with (first | (go_at_call 23; refine (usable_yes _ _ h1).mono ?_; rintro e w' ⟨rfl, rfl⟩) | (go_at_call 24; refine (front_any _ l _ hl HP.out).mono ?_; rintro e w' ⟨rfl, rfl⟩; rw [HF.out]))
    go_ret2
    exact ⟨rfl, HR.out, grownBy_refl _ _⟩

set_option maxRecDepth 100000 in
theorem rLeft (w : World) (rb lo : Nat) (l : List UInt8) (h : Rd w rb lo l) :
    Calls Try.prog 21 #[.pointer (some ⟨rb, 0, none⟩)] w fun e w' => e = .returned (.int .i64 l.length) ∧ w' = w := by
  obtain ⟨h1, h2, v, h3, h4⟩ := h
  obtain ⟨a, c, rfl, h5, h6, h7⟩ := id h4
  clear h7 h4
  unfold maxLen at h6
  go_enter Try.func21, Try.ntmps21
  go_wp2_with (go_at_call 23; refine (usable_yes _ _ h1).mono ?_; rintro e w' ⟨rfl, rfl⟩)
  go_ret
  exact ⟨rfl, rfl⟩

set_option maxRecDepth 100000 in
theorem rEnd (w : World) (rb lo : Nat) (l : List UInt8) (h : Rd w rb lo l) :
    Calls Try.prog 18 #[.pointer (some ⟨rb, 0, none⟩)] w fun e w' => e = .returned (.int .i64 (if l.length = 0 then 0 else 11)) ∧ w' = w := by
  obtain ⟨h1, h2, v, h3, h4⟩ := h
  obtain ⟨a, c, rfl, h5, h6, h7⟩ := id h4
  clear h7 h4
  unfold maxLen at h6
  by_cases h0 : l.length = 0
  · rw [if_pos h0]
    have h0' : l.length < 1 := by omega
    clear h0
    go_enter Try.func18, Try.ntmps18
    go_wp2_with (go_at_call 23; refine (usable_yes _ _ h1).mono ?_; rintro e w' ⟨rfl, rfl⟩)
    go_ret
    exact ⟨rfl, rfl⟩
  · rw [if_neg h0]
    have h0' : 0 < l.length := by omega
    clear h0
    go_enter Try.func18, Try.ntmps18
    go_wp2_with (go_at_call 23; refine (usable_yes _ _ h1).mono ?_; rintro e w' ⟨rfl, rfl⟩)
    go_ret
    exact ⟨rfl, rfl⟩

set_option maxRecDepth 100000 in
set_option maxHeartbeats 1000000 in
theorem rU8_none (w : World) (rb lo : Nat) (h : Rd w rb lo []) :
    Calls Try.prog 20 #[.pointer (some ⟨rb, 0, none⟩)] w fun e w' => e = .returned (.tuple #[.int .u8 0, .int .i64 10]) ∧ w' = w := by
  obtain ⟨h1, h2, v, h3, h4⟩ := h
  obtain ⟨a, c, rfl, h5, h6, h7⟩ := id h4
  clear h7 h4
  unfold maxLen at h6
  simp only [List.length_nil] at h3 h5
  go_enter Try.func20, Try.ntmps20
  go_wp2_with (go_at_call 23; refine (usable_yes _ _ h1).mono ?_; rintro e w' ⟨rfl, rfl⟩)
  go_ret2
  exact ⟨rfl, rfl⟩

set_option maxRecDepth 100000 in
set_option maxHeartbeats 1000000 in
theorem rU8_some (w : World) (rb lo : Nat) (x : UInt8) (l : List UInt8) (h : Rd w rb lo (x :: l)) :
    Calls Try.prog 20 #[.pointer (some ⟨rb, 0, none⟩)] w fun e w' =>
      e = .returned (.tuple #[.int .u8 x.toNat, .int .i64 0]) ∧ Rd w' rb lo l ∧ w.grownBy w' (some rb) := by
  have HR : Hid (Rd w rb lo (x :: l)) := h
  obtain ⟨h1, h2, v, h3, h4⟩ := h
  obtain ⟨a, c, rfl, h5, h6, h7⟩ := id h4
  obtain ⟨b, off, rfl, _, _, h8⟩ := h7 0 (by simp)
  clear h7
  unfold maxLen at h6
  simp only [List.getElem_cons_zero, Nat.add_zero] at h8
  obtain ⟨a1, c1, hs1, hb1⟩ := slice_low w .i64 _ c h4 1 (by simp)
  simp only [List.drop_succ_cons, List.drop_zero] at hb1
  have HB : Hid (BytesIn w lo rb (.slice a1 ((x :: l).length - 1) c1) l) := hb1
  clear hb1 h4
  simp only [show ((1 : Nat) : Int) = 1 from rfl] at hs1
  generalize hn : (x :: l).length = n at *
  have hn0 : 0 < n := by rw [← hn]; simp
  clear hn
  go_enter Try.func20, Try.ntmps20
  go_wp2_with (go_at_call 23; refine (usable_yes _ _ h1).mono ?_; rintro e w' ⟨rfl, rfl⟩)
  go_ret2
  exact ⟨rfl, HR.out.set _ HB.out, grownBy_setCell _ _ _ _⟩
end Go.Proofs.Ytfgcpkbbneicfab
