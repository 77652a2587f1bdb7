/- ValueGiven answers true: the walk. -/
import Derived.Test.YtngnlofjjlkcmaaGreatDoorGParC
import Derived.Test.YtngnlofjjlkcmaaGreatDoorGGvA
import Derived.Test.YtngnlofjjlkcmaaGreatDoorGVDcA
import Derived.Test.YtngnlofjjlkcmaaGreatDoorGVCC
import Derived.Test.YtngnlofjjlkcmaaGreatDoorZVAlive
import Derived.Test.YtngnlofjjlkcmaaGreatDoorGBkA
import Derived.Deep.Slices
import Derived.ChangeMaps5
import Derived.Test.YtngnlofjjlkcmaaGreatDoorGOpens
import Derived.Test.YtngnlofjjlkcmaaGreatDoorGOctet
import Derived.Test.YtngnlofjjlkcmaaGreatDoorZTLaid
namespace Go.Proofs.YtngnlofjjlkcmaaGreatDoor
open Go.RowKit

/-- A value that lies in a block of its own, and its items. -/
def Kv (W : World) (b : Nat) (v : Vl) (a : Option Addr) (c n : Nat) : Prop := W.heap[b]? = some (.cells (vcells v (.slice a v.items.length c)) 26 (0, 0)) ∧ ItemsAt W W.heap.size n (.slice a v.items.length c) v.items
theorem Kv.below {W W' : World} {b c n : Nat} {v : Vl} {a : Option Addr} (h : Kv W b v a c n) (hb : Below W.heap.size W W') : Kv W' b v a c n :=
  ⟨(hb.block _ (Array.getElem?_eq_some_iff.1 h.1).1).trans h.1, (h.2.below hb).up hb.size⟩
theorem Kv.new (W : World) (v : Vl) (a : Option Addr) (c n : Nat) (h : ItemsAt W W.heap.size n (.slice a v.items.length c) v.items) : Kv (W.alloc (.cells (vcells v (.slice a v.items.length c)) 26)) W.heap.size v a c n :=
  ⟨World.alloc_heap_new W _, (h.below (alloc_v (Below.refl _ _) _)).up (by simp)⟩
theorem Kv.cells {W : World} {b c n : Nat} {v : Vl} {a : Option Addr} (h : Kv W b v a c n) : W.cell? ⟨b, 0, none⟩ = some (.int .i64 v.kind) ∧ W.cell? ⟨b, 1, none⟩ = some (.int .i64 v.int) ∧ W.cell? ⟨b, 2, none⟩ = some (.int .i64 v.im) ∧ W.cell? ⟨b, 3, none⟩ = some (.string v.text) ∧ W.cell? ⟨b, 4, none⟩ = some (.slice a v.items.length c) :=
  ⟨cells_at h.1 0 _ rfl, cells_at h.1 1 _ rfl, cells_at h.1 2 _ rfl, cells_at h.1 3 _ rfl, cells_at h.1 4 _ rfl⟩
/-- What Decode answers: a value, how many bytes, the error; the bytes that were read are the value's. -/
structure DecG (l : List UInt8) (n : Nat) (v : Vl) (p : Nat) (c : Int) : Prop where
  ok : v.ok
  code : c = 0 ∨ c = 41
  right : c = 0 → rightV v = true ∧ 1 ≤ p ∧ p ≤ l.length ∧ l.take p = encV v
  prog : ∀ (w : World) (sl : Value), Tabs w → BytesIn w 0 w.heap.size sl l → Calls Tryz.prog 6 #[sl] w fun e w' => ∃ s', e = .returned (.tuple #[.agg (vcells v s'), .int .i64 p, .int .i64 c]) ∧ ItemsIn w' (fun b => w.heap.size ≤ b ∧ b < w'.heap.size) n s' v.items ∧ Below w.heap.size w w'
theorem zero_okG : (⟨0, 0, 0, ⟨#[]⟩, []⟩ : Vl).ok := ok_mk (by decide) ⟨by omega, by omega⟩ ⟨by omega, by omega⟩
theorem right_form {v : Vl} (h : rightV v = true) : formV v = true := ((rightV_is v).1 h).2.2
theorem dec_given (l : List UInt8) (hl : l.length ≤ 1048576) : ∃ n v p c, DecG l (n + 1) v p c := by
  obtain ⟨m, hm⟩ : ∃ m, m = 4097 := ⟨_, rfl⟩
  have hm2 : 4097 ≤ m := by omega
  have zero : ∀ (w w' : World) (e : Ending) (n : Nat), (e = .returned (.tuple #[.agg zcells, .int .i64 0, .int .i64 41]) ∧ Below w.heap.size w w') → ∃ s', e = .returned (.tuple #[.agg (vcells ⟨0, 0, 0, ⟨#[]⟩, []⟩ s'), .int .i64 ((0 : Nat) : Int), .int .i64 41]) ∧ ItemsIn w' (fun b => w.heap.size ≤ b ∧ b < w'.heap.size) (n + 1) s' [] ∧ Below w.heap.size w w' :=
    fun w w' e n h => ⟨.slice none 0 0, h.1, nil_in _ _ _, h.2⟩
  by_cases hok : ∃ v p q, decM l m 0 0 = some (v, p, q) ∧ rightV v = true
  · obtain ⟨v, p, q, hd, hr⟩ := hok
    obtain ⟨m', rfl⟩ : ∃ m', m = m' + 1 := ⟨m - 1, by omega⟩
    exact ⟨m', v, p, 0, decM_ok hd, .inl rfl, fun _ => ⟨hr, dec_bytes hd (right_form hr)⟩, fun w sl hT hB => decode_ok (m' + 1) w sl l v p q hT hB (by omega) hd hr⟩
  · refine ⟨15, ⟨0, 0, 0, ⟨#[]⟩, []⟩, 0, 41, zero_okG, .inr rfl, fun h => absurd h (by decide), fun w sl hT hB => ?_⟩
    cases hd : decM l m 0 0 with
    | none => exact (decode_none m w sl l hB (by omega) hm2 hd).mono (fun e w' h => zero w w' e 15 h)
    | some t =>
      obtain ⟨v, p, q⟩ := t
      have hr : rightV v = false := by
        cases h : rightV v with
        | false => rfl
        | true => exact absurd ⟨v, p, q, hd, h⟩ hok
      exact (decode_wrong m w sl l v p q hT hB (by omega) hd hr).mono (fun e w' h => zero w w' e 15 h)
theorem parse_kok {s : List UInt8} (hs : s.length ≤ 1048576) {v : Vl} (h : parM s = .ok v) (w : World) (hT : Tabs w) : Calls Tryz.prog 14 #[.string (str s)] w fun e w' => ∃ s', e = .returned (.tuple #[.agg (vcells v s'), .agg fz]) ∧ ItemsIn w' (fun b => w.heap.size ≤ b ∧ b < w'.heap.size) 16 s' v.items ∧ Below w.heap.size w w' := by
  refine (parse_k w s hs hT).mono ?_
  intro e w' hr
  unfold ParR at hr
  rw [h] at hr
  obtain ⟨⟨s', h1, h2⟩, h3⟩ := hr
  exact ⟨s', h1, h2, h3⟩
theorem parse_kerr {s : List UInt8} (hs : s.length ≤ 1048576) {c : Int} {o : Nat} (h : parM s = .error (c, o)) (w : World) (hT : Tabs w) : Calls Tryz.prog 14 #[.string (str s)] w fun e w' => e = .returned (.tuple #[.agg zcells, .agg (fcells s c o)]) ∧ Below w.heap.size w w' := by
  refine (parse_k w s hs hT).mono ?_
  intro e w' hr
  unfold ParR at hr
  rw [h] at hr
  exact hr
theorem check_ok {v : Vl} (hr : rightV v = true) (w : World) (n : Nat) (sl : Value) (hT : Tabs w) (htx : v.text.size ≤ 1048576) (hs : ItemsAt w w.heap.size n sl v.items) :
    Calls Tryz.prog 13 #[.agg (vcells v sl)] w fun e w' => e = .returned (.int .i64 0) ∧ Below w.heap.size w w' := by
  have h := check_k v w n sl hT htx hs
  rw [hr] at h
  exact h
theorem fault_eq (w : World) : (binOp BinOp.eql 44 (.agg #[.int .i64 0, .int .i64 0, .int .i64 0, .int .i64 0]) (.agg #[.int .i64 0, .int .i64 0, .int .i64 0, .int .i64 0])).run Tryz.prog w = .ok (.bool true) w := by kernel_rfl
theorem fault_ne {c : Int} (hc : CodeOk c) (x y z : Int) (w : World) : (binOp BinOp.eql 44 (.agg #[.int .i64 c, .int .i64 x, .int .i64 y, .int .i64 z]) (.agg #[.int .i64 0, .int .i64 0, .int .i64 0, .int .i64 0])).run Tryz.prog w = .ok (.bool false) w := by
  rcases hc with rfl | rfl | rfl | rfl
  · kernel_rfl
  · kernel_rfl
  · kernel_rfl
  · kernel_rfl
theorem cmp_right {a b : Vl} (ha : rightV a = true) (hb : rightV b = true) : cmpV a b = ordV a b := by
  unfold cmpV
  rw [ha, hb, if_pos rfl, if_pos rfl]
set_option maxRecDepth 100000 in
theorem slice_hiG {w : World} {lo hi : Nat} {a : Option Addr} {c : Nat} {l : List UInt8} (h : BytesIn w lo hi (.slice a l.length c) l) (n : Nat) (hn : n ≤ l.length) (w' : World) :
    (Instr.slice 22 (.slice a l.length c) none (some (.int .i64 (n : Int))) none).run Tryz.prog w' = .ok (.slice a n c) w' := by
  have hc : l.length ≤ c := by
    obtain ⟨a', c', e, hlen, _⟩ := h
    cases e
    exact hlen
  rw [run_slice_h (P := Tryz.prog) w' 22 a l.length c Tryz.underlying22 .i64 (n : Int) (by omega) (by omega), Int.toNat_natCast]
  have hs : (sizeOf (Tryz.prog.elem 22)).run Tryz.prog w' = .ok 1 w' := by kernel_rfl
  rw [hs]
  show Result.ok (sliced a 0 n c 1) w' = _
  unfold sliced
  cases a with
  | none => simp
  | some x => simp [Addr.add]
theorem conv_takeG {w : World} {lo hi : Nat} {a : Option Addr} {c : Nat} {l : List UInt8} (h : BytesIn w lo hi (.slice a l.length c) l) (n : Nat) (hn : n ≤ l.length) :
    (convert 22 9 (.slice a n c)).run Tryz.prog w = .ok (.string (bytesOf (l.take n))) w := by
  exact conv_bytes (h.take hn).plain
set_option maxRecDepth 100000 in
set_option maxHeartbeats 8000000 in
theorem given_ok_no (s l1 l2 : List UInt8) (w : World) (a1 a2 : Option Addr) (cp1 cp2 n1 n2 p1 p2 : Nat) (v1 v2 : Vl) (c1 c2 : Int) (hT : Tabs w) (hB1 : BytesIn w 0 w.heap.size (.slice a1 l1.length cp1) l1) (hB2 : BytesIn w 0 w.heap.size (.slice a2 l2.length cp2) l2) (hs : s.length ≤ 1048576) (hD1 : DecG l1 (n1 + 1) v1 p1 c1) (hD2 : DecG l2 (n2 + 1) v2 p2 c2) (v0 : Vl) (hp : parM s = .ok v0) (h1 : c1 = 41) :
    Calls Tryz.prog 5 #[.string (str s), .slice a1 l1.length cp1, .slice a2 l2.length cp2] w fun e w' => e = .returned (.bool true) ∧ Below w.heap.size w w' := by
  have HT := hide (fun (U : World) (b : Below w.heap.size w U) => hT.below b)
  have BB := hide (Below.refl w.heap.size w)
  have HB1 := hide (fun (U : World) (b : Below w.heap.size w U) => hB1.mono (w' := U) (hi' := U.heap.size) (fun b' o _ hb => b.cell (p := ⟨b', o, none⟩) hb) (Nat.le_refl _) b.size)
  have HB2 := hide (fun (U : World) (b : Below w.heap.size w U) => hB2.mono (w' := U) (hi' := U.heap.size) (fun b' o _ hb => b.cell (p := ⟨b', o, none⟩) hb) (Nat.le_refl _) b.size)
  have HD1 := hide hD1.prog
  have HD2 := hide hD2.prog
  have HR0 := hide (parM_right hs hp)
  have HPA := hide (parse_kok hs hp)
  have heq := fault_eq
  subst h1
  clear hT hB1 hB2 hD1 hD2 hp
  go_enter Tryz.func5, Tryz.ntmps5
  go_wp2_with (go_at_call 14; refine (HPA.out _ (HT.out _ BB.out)).mono ?_; rintro e w1 ⟨s1, rfl, i1, b1⟩; obtain ⟨pa, pc, rfl, _⟩ := i1.len; have b1' := alloc_v (alloc_v b1 (.cells (vcells v0 (.slice pa v0.items.length pc)) 26)) (.cells fz 44); have KP := hide ((Kv.new w1 v0 pa pc 16 (i1.at (fun b h => h.2))).below (alloc_v (Below.refl _ _) (.cells fz 44))); have FB := hide (FaultIs.new w1 (.cells (vcells v0 (.slice pa v0.items.length pc)) 26) fz); have BN := hide (trans_v BB.out b1'); clear BB b1 b1' i1; have BB := BN; clear BN; obtain ⟨s0, s1, s2, s3, s4⟩ := KP.out.cells; obtain ⟨f0, f1, f2, f3⟩ := FB.out.cells)
  go_upto_region 5 with (first
    | (go_at_call 8; refine (num4_k _ _).mono ?_; rintro e wq ⟨rfl, rfl⟩)
    | (go_at_call 13; refine (check_ok HR0.out.1 _ 16 _ (HT.out _ BB.out) HR0.out.2.1 KP.out.2).mono ?_; clear KP FB s0 s1 s2 s3 s4 f0 f1 f2 f3 heq; rintro e w2 ⟨rfl, b2⟩; have BN := hide (trans_v BB.out b2); clear BB b2; have BB := BN; clear BN)
    | (go_at_call 6; refine (HD1.out _ _ (HT.out _ BB.out) (HB1.out _ BB.out)).mono ?_; clear HD1; rintro e w3 ⟨s3, rfl, i3, b3⟩; obtain ⟨xa, xc, rfl, _⟩ := i3.len; have b3' := alloc_v b3 (.cells (vcells v1 (.slice xa v1.items.length xc)) 26); have K1 := hide (Kv.new w3 v1 xa xc (n1 + 1) (i3.at (fun b h => h.2))); have BN := hide (trans_v BB.out b3'); clear BB b3 b3' i3; have BB := BN; clear BN))
  generalize w3.heap.size = b1 at *
  go_wp2_with (go_at_call 6; refine (HD2.out _ _ (HT.out _ BB.out) (HB2.out _ BB.out)).mono ?_; clear HD2; rintro e w4 ⟨s4, rfl, i4, b4⟩; obtain ⟨ya, yc, rfl, _⟩ := i4.len; have b4' := alloc_v b4 (.cells (vcells v2 (.slice ya v2.items.length yc)) 26); have K2 := hide (Kv.new w4 v2 ya yc (n2 + 1) (i4.at (fun b h => h.2))); have KN := hide (K1.out.below b4'); have BN := hide (trans_v BB.out b4'); clear BB b4 b4' i4 K1; have BB := BN; have K1 := KN; clear BN KN; obtain ⟨x0, x1, x2, x3, x4⟩ := K1.out.cells)
  generalize w4.heap.size = b2 at *
  go_wp2_with (go_at_call 8; refine (num4_k _ _).mono ?_; rintro e wq ⟨rfl, rfl⟩)
  generalize hWC : World.alloc _ _ = WC at *
  have hany := Wv.any WC
  refine wp_region_grown (by kernel_rfl) (by kernel_rfl) ?_
  repeat (go_big_quiet_step (first
    | (go_at_call 8; exact (num4_k _ _).mono fun _ _ h => ⟨h.1, ⟨_, h.2.symm⟩⟩)))
  refine wpQuiet_nil ?_
  intro w8 hw'
  obtain ⟨q, rfl⟩ := hw'
  have HL := hide (alive4_k q.val (HT.out _ (trans_v BB.out q.below)))
  have BQ := hide (trans_v BB.out q.below)
  clear hany
  go_wp2_with (go_at_call 10; refine HL.out.mono ?_; clear HL; rintro e w9 ⟨rfl, b9⟩; have B9 := hide b9; clear b9)
  go_ret
  exact ⟨rfl, trans_v BQ.out B9.out⟩
set_option maxRecDepth 100000 in
set_option maxHeartbeats 8000000 in
theorem given_ok_one (s l1 l2 : List UInt8) (w : World) (a1 a2 : Option Addr) (cp1 cp2 n1 n2 p1 p2 : Nat) (v1 v2 : Vl) (c1 c2 : Int) (hT : Tabs w) (hB1 : BytesIn w 0 w.heap.size (.slice a1 l1.length cp1) l1) (hB2 : BytesIn w 0 w.heap.size (.slice a2 l2.length cp2) l2) (hs : s.length ≤ 1048576) (hD1 : DecG l1 (n1 + 1) v1 p1 c1) (hD2 : DecG l2 (n2 + 1) v2 p2 c2) (v0 : Vl) (hp : parM s = .ok v0) (h1 : c1 = 0) (h2 : c2 = 41) :
    Calls Tryz.prog 5 #[.string (str s), .slice a1 l1.length cp1, .slice a2 l2.length cp2] w fun e w' => e = .returned (.bool true) ∧ Below w.heap.size w w' := by
  have HT := hide (fun (U : World) (b : Below w.heap.size w U) => hT.below b)
  have BB := hide (Below.refl w.heap.size w)
  have HB1 := hide (fun (U : World) (b : Below w.heap.size w U) => hB1.mono (w' := U) (hi' := U.heap.size) (fun b' o _ hb => b.cell (p := ⟨b', o, none⟩) hb) (Nat.le_refl _) b.size)
  have HB2 := hide (fun (U : World) (b : Below w.heap.size w U) => hB2.mono (w' := U) (hi' := U.heap.size) (fun b' o _ hb => b.cell (p := ⟨b', o, none⟩) hb) (Nat.le_refl _) b.size)
  have HD1 := hide hD1.prog
  have HD2 := hide hD2.prog
  have HR0 := hide (parM_right hs hp)
  have HPA := hide (parse_kok hs hp)
  have heq := fault_eq
  subst h1
  obtain ⟨r1, q1, q2, q3⟩ := hD1.right rfl
  have HR1 := hide (And.intro r1 hD1.ok.1)
  have hp1 : ¬ ((p1 : Nat) : Int) < 1 := by omega
  have hp2 : ¬ ((l1.length : Nat) : Int) < ((p1 : Nat) : Int) := by omega
  subst h2
  clear hT hB1 hB2 hD1 hD2 hp r1 q1 q2 q3
  go_enter Tryz.func5, Tryz.ntmps5
  go_wp2_with (go_at_call 14; refine (HPA.out _ (HT.out _ BB.out)).mono ?_; rintro e w1 ⟨s1, rfl, i1, b1⟩; obtain ⟨pa, pc, rfl, _⟩ := i1.len; have b1' := alloc_v (alloc_v b1 (.cells (vcells v0 (.slice pa v0.items.length pc)) 26)) (.cells fz 44); have KP := hide ((Kv.new w1 v0 pa pc 16 (i1.at (fun b h => h.2))).below (alloc_v (Below.refl _ _) (.cells fz 44))); have FB := hide (FaultIs.new w1 (.cells (vcells v0 (.slice pa v0.items.length pc)) 26) fz); have BN := hide (trans_v BB.out b1'); clear BB b1 b1' i1; have BB := BN; clear BN; obtain ⟨s0, s1, s2, s3, s4⟩ := KP.out.cells; obtain ⟨f0, f1, f2, f3⟩ := FB.out.cells)
  go_upto_region 5 with (first
    | (go_at_call 8; refine (num4_k _ _).mono ?_; rintro e wq ⟨rfl, rfl⟩)
    | (go_at_call 13; refine (check_ok HR0.out.1 _ 16 _ (HT.out _ BB.out) HR0.out.2.1 KP.out.2).mono ?_; clear KP FB s0 s1 s2 s3 s4 f0 f1 f2 f3 heq; rintro e w2 ⟨rfl, b2⟩; have BN := hide (trans_v BB.out b2); clear BB b2; have BB := BN; clear BN)
    | (go_at_call 6; refine (HD1.out _ _ (HT.out _ BB.out) (HB1.out _ BB.out)).mono ?_; clear HD1; rintro e w3 ⟨s3, rfl, i3, b3⟩; obtain ⟨xa, xc, rfl, _⟩ := i3.len; have b3' := alloc_v b3 (.cells (vcells v1 (.slice xa v1.items.length xc)) 26); have K1 := hide (Kv.new w3 v1 xa xc (n1 + 1) (i3.at (fun b h => h.2))); have BN := hide (trans_v BB.out b3'); clear BB b3 b3' i3; have BB := BN; clear BN))
  generalize w3.heap.size = b1 at *
  go_wp2_with (go_at_call 6; refine (HD2.out _ _ (HT.out _ BB.out) (HB2.out _ BB.out)).mono ?_; clear HD2; rintro e w4 ⟨s4, rfl, i4, b4⟩; obtain ⟨ya, yc, rfl, _⟩ := i4.len; have b4' := alloc_v b4 (.cells (vcells v2 (.slice ya v2.items.length yc)) 26); have K2 := hide (Kv.new w4 v2 ya yc (n2 + 1) (i4.at (fun b h => h.2))); have KN := hide (K1.out.below b4'); have BN := hide (trans_v BB.out b4'); clear BB b4 b4' i4 K1; have BB := BN; have K1 := KN; clear BN KN; obtain ⟨x0, x1, x2, x3, x4⟩ := K1.out.cells)
  generalize w4.heap.size = b2 at *
  go_wp2_with (first
    | (go_at_call 8; refine (num4_k _ _).mono ?_; rintro e wq ⟨rfl, rfl⟩)
    | (go_at_call 13; refine (check_ok HR1.out.1 _ (n1 + 1) _ (HT.out _ BB.out) HR1.out.2 K1.out.2).mono ?_; clear x0 x1 x2 x3 x4; rintro e WC ⟨rfl, b5⟩; have KN := hide (K1.out.below b5); have KN2 := hide (K2.out.below b5); have BN := hide (trans_v BB.out b5); clear BB b5 K1 K2; have BB := BN; have K1 := KN; have K2 := KN2; clear BN KN KN2))
  have hany := Wv.any WC
  refine wp_region_grown (by kernel_rfl) (by kernel_rfl) ?_
  repeat (go_big_quiet_step (first
    | (go_at_call 8; exact (num4_k _ _).mono fun _ _ h => ⟨h.1, ⟨_, h.2.symm⟩⟩)))
  refine wpQuiet_nil ?_
  intro w8 hw'
  obtain ⟨q, rfl⟩ := hw'
  have HL := hide (alive4_k q.val (HT.out _ (trans_v BB.out q.below)))
  have BQ := hide (trans_v BB.out q.below)
  clear hany
  go_wp2_with (go_at_call 10; refine HL.out.mono ?_; clear HL; rintro e w9 ⟨rfl, b9⟩; have B9 := hide b9; clear b9)
  go_ret
  exact ⟨rfl, trans_v BQ.out B9.out⟩
set_option maxRecDepth 100000 in
set_option maxHeartbeats 8000000 in
theorem given_ok_eq (s l1 l2 : List UInt8) (w : World) (a1 a2 : Option Addr) (cp1 cp2 n1 n2 p1 p2 : Nat) (v1 v2 : Vl) (c1 c2 : Int) (hT : Tabs w) (hB1 : BytesIn w 0 w.heap.size (.slice a1 l1.length cp1) l1) (hB2 : BytesIn w 0 w.heap.size (.slice a2 l2.length cp2) l2) (hs : s.length ≤ 1048576) (hD1 : DecG l1 (n1 + 1) v1 p1 c1) (hD2 : DecG l2 (n2 + 1) v2 p2 c2) (v0 : Vl) (hp : parM s = .ok v0) (h1 : c1 = 0) (h2 : c2 = 0) (hv : v1 = v2) :
    Calls Tryz.prog 5 #[.string (str s), .slice a1 l1.length cp1, .slice a2 l2.length cp2] w fun e w' => e = .returned (.bool true) ∧ Below w.heap.size w w' := by
  have HT := hide (fun (U : World) (b : Below w.heap.size w U) => hT.below b)
  have BB := hide (Below.refl w.heap.size w)
  have HB1 := hide (fun (U : World) (b : Below w.heap.size w U) => hB1.mono (w' := U) (hi' := U.heap.size) (fun b' o _ hb => b.cell (p := ⟨b', o, none⟩) hb) (Nat.le_refl _) b.size)
  have HB2 := hide (fun (U : World) (b : Below w.heap.size w U) => hB2.mono (w' := U) (hi' := U.heap.size) (fun b' o _ hb => b.cell (p := ⟨b', o, none⟩) hb) (Nat.le_refl _) b.size)
  have HD1 := hide hD1.prog
  have HD2 := hide hD2.prog
  have HR0 := hide (parM_right hs hp)
  have HPA := hide (parse_kok hs hp)
  have heq := fault_eq
  subst h1
  obtain ⟨r1, q1, q2, q3⟩ := hD1.right rfl
  have HR1 := hide (And.intro r1 hD1.ok.1)
  have hp1 : ¬ ((p1 : Nat) : Int) < 1 := by omega
  have hp2 : ¬ ((l1.length : Nat) : Int) < ((p1 : Nat) : Int) := by omega
  subst h2
  obtain ⟨r2, q4, q5, q6⟩ := hD2.right rfl
  have hx1 := hB1.len
  have hsl1 : ∀ w : World, (Instr.slice 22 (.slice a1 l1.length cp1) none (some (.int .i64 ((p1 : Nat) : Int))) none).run Tryz.prog w = .ok (.slice a1 p1 cp1) w := slice_hiG hB1 p1 q2
  have hsl2 : ∀ w : World, (Instr.slice 22 (.slice a2 l2.length cp2) none (some (.int .i64 ((p2 : Nat) : Int))) none).run Tryz.prog w = .ok (.slice a2 p2 cp2) w := slice_hiG hB2 p2 q5
  have HC1 := hide (fun (U : World) (b : Below w.heap.size w U) => conv_takeG (HB1.out U b) p1 q2)
  have HC2 := hide (fun (U : World) (b : Below w.heap.size w U) => conv_takeG (HB2.out U b) p2 q5)
  rw [q3] at HC1
  rw [q6] at HC2
  have HCM := hide (fun (U : World) (b : Below w.heap.size w U) (m1 m2 : Nat) (x1 x2 : Value) (i1 : ItemsAt U U.heap.size m1 x1 v1.items) (i2 : ItemsAt U U.heap.size m2 x2 v2.items) => compare_k v1 v2 U m1 m2 x1 x2 (HT.out U b) hD1.ok.1 hD2.ok.1 i1 i2)
  rw [cmp_right r1 r2] at HCM
  subst hv
  rw [ordV_self] at HCM
  generalize bytesOf (encV v1) = e1 at *
  clear hT hB1 hB2 hD1 hD2 hp r1 q1 q2 q3 r2 q4 q5 q6 hx1
  go_enter Tryz.func5, Tryz.ntmps5
  go_wp2_with (go_at_call 14; refine (HPA.out _ (HT.out _ BB.out)).mono ?_; rintro e w1 ⟨s1, rfl, i1, b1⟩; obtain ⟨pa, pc, rfl, _⟩ := i1.len; have b1' := alloc_v (alloc_v b1 (.cells (vcells v0 (.slice pa v0.items.length pc)) 26)) (.cells fz 44); have KP := hide ((Kv.new w1 v0 pa pc 16 (i1.at (fun b h => h.2))).below (alloc_v (Below.refl _ _) (.cells fz 44))); have FB := hide (FaultIs.new w1 (.cells (vcells v0 (.slice pa v0.items.length pc)) 26) fz); have BN := hide (trans_v BB.out b1'); clear BB b1 b1' i1; have BB := BN; clear BN; obtain ⟨s0, s1, s2, s3, s4⟩ := KP.out.cells; obtain ⟨f0, f1, f2, f3⟩ := FB.out.cells)
  go_upto_region 5 with (first
    | (go_at_call 8; refine (num4_k _ _).mono ?_; rintro e wq ⟨rfl, rfl⟩)
    | (go_at_call 13; refine (check_ok HR0.out.1 _ 16 _ (HT.out _ BB.out) HR0.out.2.1 KP.out.2).mono ?_; clear KP FB s0 s1 s2 s3 s4 f0 f1 f2 f3 heq; rintro e w2 ⟨rfl, b2⟩; have BN := hide (trans_v BB.out b2); clear BB b2; have BB := BN; clear BN)
    | (go_at_call 6; refine (HD1.out _ _ (HT.out _ BB.out) (HB1.out _ BB.out)).mono ?_; clear HD1; rintro e w3 ⟨s3, rfl, i3, b3⟩; obtain ⟨xa, xc, rfl, _⟩ := i3.len; have b3' := alloc_v b3 (.cells (vcells v1 (.slice xa v1.items.length xc)) 26); have K1 := hide (Kv.new w3 v1 xa xc (n1 + 1) (i3.at (fun b h => h.2))); have BN := hide (trans_v BB.out b3'); clear BB b3 b3' i3; have BB := BN; clear BN))
  generalize w3.heap.size = b1 at *
  go_wp2_with (go_at_call 6; refine (HD2.out _ _ (HT.out _ BB.out) (HB2.out _ BB.out)).mono ?_; clear HD2; rintro e w4 ⟨s4, rfl, i4, b4⟩; obtain ⟨ya, yc, rfl, _⟩ := i4.len; have b4' := alloc_v b4 (.cells (vcells v1 (.slice ya v1.items.length yc)) 26); have K2 := hide (Kv.new w4 v1 ya yc (n2 + 1) (i4.at (fun b h => h.2))); have KN := hide (K1.out.below b4'); have BN := hide (trans_v BB.out b4'); clear BB b4 b4' i4 K1; have BB := BN; have K1 := KN; clear BN KN; obtain ⟨x0, x1, x2, x3, x4⟩ := K1.out.cells)
  generalize w4.heap.size = b2 at *
  go_wp2_with (first
    | (go_at_call 8; refine (num4_k _ _).mono ?_; rintro e wq ⟨rfl, rfl⟩)
    | (go_at_call 13; refine (check_ok HR1.out.1 _ (n1 + 1) _ (HT.out _ BB.out) HR1.out.2 K1.out.2).mono ?_; clear x0 x1 x2 x3 x4; rintro e WC ⟨rfl, b5⟩; have KN := hide (K1.out.below b5); have KN2 := hide (K2.out.below b5); have BN := hide (trans_v BB.out b5); clear BB b5 K1 K2; have BB := BN; have K1 := KN; have K2 := KN2; clear BN KN KN2))
  have hany := Wv.any WC
  have u0 := fun q : Wv WC => q.cell K1.out.cells.1
  have u1 := fun q : Wv WC => q.cell K1.out.cells.2.1
  have u2 := fun q : Wv WC => q.cell K1.out.cells.2.2.1
  have u3 := fun q : Wv WC => q.cell K1.out.cells.2.2.2.1
  have u4 := fun q : Wv WC => q.cell K1.out.cells.2.2.2.2
  have y0 := fun q : Wv WC => q.cell K2.out.cells.1
  have y1 := fun q : Wv WC => q.cell K2.out.cells.2.1
  have y2 := fun q : Wv WC => q.cell K2.out.cells.2.2.1
  have y3 := fun q : Wv WC => q.cell K2.out.cells.2.2.2.1
  have y4 := fun q : Wv WC => q.cell K2.out.cells.2.2.2.2
  have g1 := fun q : Wv WC => HC1.out q.val (trans_v BB.out q.below)
  have g2 := fun q : Wv WC => HC2.out q.val (trans_v BB.out q.below)
  have HCM2 := hide (fun q : Wv WC => HCM.out q.val (trans_v BB.out q.below) _ _ _ _ (K1.out.below q.below).2 (K2.out.below q.below).2)
  refine wp_region_grown (by kernel_rfl) (by kernel_rfl) ?_
  repeat (go_big_quiet_step (first
    | (go_at_call 8; exact (num4_k _ _).mono fun _ _ h => ⟨h.1, ⟨_, h.2.symm⟩⟩)
    | (go_at_call 15; exact Wv.calls _ (HCM2.out _))))
  refine wpQuiet_nil ?_
  intro w8 hw'
  obtain ⟨q, rfl⟩ := hw'
  clear u0 u1 u2 u3 u4 y0 y1 y2 y3 y4 g1 g2
  have HL := hide (alive4_k q.val (HT.out _ (trans_v BB.out q.below)))
  have BQ := hide (trans_v BB.out q.below)
  clear hany
  go_wp2_with (go_at_call 10; refine HL.out.mono ?_; clear HL; rintro e w9 ⟨rfl, b9⟩; have B9 := hide b9; clear b9)
  go_ret
  exact ⟨rfl, trans_v BQ.out B9.out⟩
set_option maxRecDepth 100000 in
set_option maxHeartbeats 8000000 in
theorem given_ok_ne (s l1 l2 : List UInt8) (w : World) (a1 a2 : Option Addr) (cp1 cp2 n1 n2 p1 p2 : Nat) (v1 v2 : Vl) (c1 c2 : Int) (hT : Tabs w) (hB1 : BytesIn w 0 w.heap.size (.slice a1 l1.length cp1) l1) (hB2 : BytesIn w 0 w.heap.size (.slice a2 l2.length cp2) l2) (hs : s.length ≤ 1048576) (hD1 : DecG l1 (n1 + 1) v1 p1 c1) (hD2 : DecG l2 (n2 + 1) v2 p2 c2) (v0 : Vl) (hp : parM s = .ok v0) (h1 : c1 = 0) (h2 : c2 = 0) (hv : v1 ≠ v2) :
    Calls Tryz.prog 5 #[.string (str s), .slice a1 l1.length cp1, .slice a2 l2.length cp2] w fun e w' => e = .returned (.bool true) ∧ Below w.heap.size w w' := by
  have HT := hide (fun (U : World) (b : Below w.heap.size w U) => hT.below b)
  have BB := hide (Below.refl w.heap.size w)
  have HB1 := hide (fun (U : World) (b : Below w.heap.size w U) => hB1.mono (w' := U) (hi' := U.heap.size) (fun b' o _ hb => b.cell (p := ⟨b', o, none⟩) hb) (Nat.le_refl _) b.size)
  have HB2 := hide (fun (U : World) (b : Below w.heap.size w U) => hB2.mono (w' := U) (hi' := U.heap.size) (fun b' o _ hb => b.cell (p := ⟨b', o, none⟩) hb) (Nat.le_refl _) b.size)
  have HD1 := hide hD1.prog
  have HD2 := hide hD2.prog
  have HR0 := hide (parM_right hs hp)
  have HPA := hide (parse_kok hs hp)
  have heq := fault_eq
  subst h1
  obtain ⟨r1, q1, q2, q3⟩ := hD1.right rfl
  have HR1 := hide (And.intro r1 hD1.ok.1)
  have hp1 : ¬ ((p1 : Nat) : Int) < 1 := by omega
  have hp2 : ¬ ((l1.length : Nat) : Int) < ((p1 : Nat) : Int) := by omega
  subst h2
  obtain ⟨r2, q4, q5, q6⟩ := hD2.right rfl
  have hx1 := hB1.len
  have hsl1 : ∀ w : World, (Instr.slice 22 (.slice a1 l1.length cp1) none (some (.int .i64 ((p1 : Nat) : Int))) none).run Tryz.prog w = .ok (.slice a1 p1 cp1) w := slice_hiG hB1 p1 q2
  have hsl2 : ∀ w : World, (Instr.slice 22 (.slice a2 l2.length cp2) none (some (.int .i64 ((p2 : Nat) : Int))) none).run Tryz.prog w = .ok (.slice a2 p2 cp2) w := slice_hiG hB2 p2 q5
  have HC1 := hide (fun (U : World) (b : Below w.heap.size w U) => conv_takeG (HB1.out U b) p1 q2)
  have HC2 := hide (fun (U : World) (b : Below w.heap.size w U) => conv_takeG (HB2.out U b) p2 q5)
  rw [q3] at HC1
  rw [q6] at HC2
  have HCM := hide (fun (U : World) (b : Below w.heap.size w U) (m1 m2 : Nat) (x1 x2 : Value) (i1 : ItemsAt U U.heap.size m1 x1 v1.items) (i2 : ItemsAt U U.heap.size m2 x2 v2.items) => compare_k v1 v2 U m1 m2 x1 x2 (HT.out U b) hD1.ok.1 hD2.ok.1 i1 i2)
  rw [cmp_right r1 r2] at HCM
  have hz : (ordV v1 v2 == 0) = false := by
    cases h : ordV v1 v2 == 0 with
    | false => rfl
    | true => exact absurd (ordV_zero (beq_iff_eq.1 h)) hv
  have hst : ((bytesOf (encV v1)).toList == (bytesOf (encV v2)).toList) = false := by
    cases h : (bytesOf (encV v1)).toList == (bytesOf (encV v2)).toList with
    | false => rfl
    | true =>
      have h' := beq_iff_eq.1 h
      rw [Lib.toList_data, Lib.toList_data] at h'
      exact absurd (enc_eq (right_form r1) (right_form r2) h') hv
  generalize ordV v1 v2 = z at *
  generalize bytesOf (encV v1) = e1 at *
  generalize bytesOf (encV v2) = e2 at *
  clear hT hB1 hB2 hD1 hD2 hp r1 q1 q2 q3 r2 q4 q5 q6 hx1 hv
  go_enter Tryz.func5, Tryz.ntmps5
  go_wp2_with (go_at_call 14; refine (HPA.out _ (HT.out _ BB.out)).mono ?_; rintro e w1 ⟨s1, rfl, i1, b1⟩; obtain ⟨pa, pc, rfl, _⟩ := i1.len; have b1' := alloc_v (alloc_v b1 (.cells (vcells v0 (.slice pa v0.items.length pc)) 26)) (.cells fz 44); have KP := hide ((Kv.new w1 v0 pa pc 16 (i1.at (fun b h => h.2))).below (alloc_v (Below.refl _ _) (.cells fz 44))); have FB := hide (FaultIs.new w1 (.cells (vcells v0 (.slice pa v0.items.length pc)) 26) fz); have BN := hide (trans_v BB.out b1'); clear BB b1 b1' i1; have BB := BN; clear BN; obtain ⟨s0, s1, s2, s3, s4⟩ := KP.out.cells; obtain ⟨f0, f1, f2, f3⟩ := FB.out.cells)
  go_upto_region 5 with (first
    | (go_at_call 8; refine (num4_k _ _).mono ?_; rintro e wq ⟨rfl, rfl⟩)
    | (go_at_call 13; refine (check_ok HR0.out.1 _ 16 _ (HT.out _ BB.out) HR0.out.2.1 KP.out.2).mono ?_; clear KP FB s0 s1 s2 s3 s4 f0 f1 f2 f3 heq; rintro e w2 ⟨rfl, b2⟩; have BN := hide (trans_v BB.out b2); clear BB b2; have BB := BN; clear BN)
    | (go_at_call 6; refine (HD1.out _ _ (HT.out _ BB.out) (HB1.out _ BB.out)).mono ?_; clear HD1; rintro e w3 ⟨s3, rfl, i3, b3⟩; obtain ⟨xa, xc, rfl, _⟩ := i3.len; have b3' := alloc_v b3 (.cells (vcells v1 (.slice xa v1.items.length xc)) 26); have K1 := hide (Kv.new w3 v1 xa xc (n1 + 1) (i3.at (fun b h => h.2))); have BN := hide (trans_v BB.out b3'); clear BB b3 b3' i3; have BB := BN; clear BN))
  generalize w3.heap.size = b1 at *
  go_wp2_with (go_at_call 6; refine (HD2.out _ _ (HT.out _ BB.out) (HB2.out _ BB.out)).mono ?_; clear HD2; rintro e w4 ⟨s4, rfl, i4, b4⟩; obtain ⟨ya, yc, rfl, _⟩ := i4.len; have b4' := alloc_v b4 (.cells (vcells v2 (.slice ya v2.items.length yc)) 26); have K2 := hide (Kv.new w4 v2 ya yc (n2 + 1) (i4.at (fun b h => h.2))); have KN := hide (K1.out.below b4'); have BN := hide (trans_v BB.out b4'); clear BB b4 b4' i4 K1; have BB := BN; have K1 := KN; clear BN KN; obtain ⟨x0, x1, x2, x3, x4⟩ := K1.out.cells)
  generalize w4.heap.size = b2 at *
  go_wp2_with (first
    | (go_at_call 8; refine (num4_k _ _).mono ?_; rintro e wq ⟨rfl, rfl⟩)
    | (go_at_call 13; refine (check_ok HR1.out.1 _ (n1 + 1) _ (HT.out _ BB.out) HR1.out.2 K1.out.2).mono ?_; clear x0 x1 x2 x3 x4; rintro e WC ⟨rfl, b5⟩; have KN := hide (K1.out.below b5); have KN2 := hide (K2.out.below b5); have BN := hide (trans_v BB.out b5); clear BB b5 K1 K2; have BB := BN; have K1 := KN; have K2 := KN2; clear BN KN KN2))
  have hany := Wv.any WC
  have u0 := fun q : Wv WC => q.cell K1.out.cells.1
  have u1 := fun q : Wv WC => q.cell K1.out.cells.2.1
  have u2 := fun q : Wv WC => q.cell K1.out.cells.2.2.1
  have u3 := fun q : Wv WC => q.cell K1.out.cells.2.2.2.1
  have u4 := fun q : Wv WC => q.cell K1.out.cells.2.2.2.2
  have y0 := fun q : Wv WC => q.cell K2.out.cells.1
  have y1 := fun q : Wv WC => q.cell K2.out.cells.2.1
  have y2 := fun q : Wv WC => q.cell K2.out.cells.2.2.1
  have y3 := fun q : Wv WC => q.cell K2.out.cells.2.2.2.1
  have y4 := fun q : Wv WC => q.cell K2.out.cells.2.2.2.2
  have g1 := fun q : Wv WC => HC1.out q.val (trans_v BB.out q.below)
  have g2 := fun q : Wv WC => HC2.out q.val (trans_v BB.out q.below)
  have HCM2 := hide (fun q : Wv WC => HCM.out q.val (trans_v BB.out q.below) _ _ _ _ (K1.out.below q.below).2 (K2.out.below q.below).2)
  refine wp_region_grown (by kernel_rfl) (by kernel_rfl) ?_
  repeat (go_big_quiet_step (first
    | (go_at_call 8; exact (num4_k _ _).mono fun _ _ h => ⟨h.1, ⟨_, h.2.symm⟩⟩)
    | (go_at_call 15; exact Wv.calls _ (HCM2.out _))))
  refine wpQuiet_nil ?_
  intro w8 hw'
  obtain ⟨q, rfl⟩ := hw'
  clear u0 u1 u2 u3 u4 y0 y1 y2 y3 y4 g1 g2
  have HL := hide (alive4_k q.val (HT.out _ (trans_v BB.out q.below)))
  have BQ := hide (trans_v BB.out q.below)
  clear hany
  go_wp2_with (go_at_call 10; refine HL.out.mono ?_; clear HL; rintro e w9 ⟨rfl, b9⟩; have B9 := hide b9; clear b9)
  go_ret
  exact ⟨rfl, trans_v BQ.out B9.out⟩
set_option maxRecDepth 100000 in
set_option maxHeartbeats 8000000 in
theorem given_bad_no (s l1 l2 : List UInt8) (w : World) (a1 a2 : Option Addr) (cp1 cp2 n1 n2 p1 p2 : Nat) (v1 v2 : Vl) (c1 c2 : Int) (hT : Tabs w) (hB1 : BytesIn w 0 w.heap.size (.slice a1 l1.length cp1) l1) (hB2 : BytesIn w 0 w.heap.size (.slice a2 l2.length cp2) l2) (hs : s.length ≤ 1048576) (hD1 : DecG l1 (n1 + 1) v1 p1 c1) (hD2 : DecG l2 (n2 + 1) v2 p2 c2) (c0 : Int) (o0 : Nat) (hp : parM s = .error (c0, o0)) (h1 : c1 = 41) :
    Calls Tryz.prog 5 #[.string (str s), .slice a1 l1.length cp1, .slice a2 l2.length cp2] w fun e w' => e = .returned (.bool true) ∧ Below w.heap.size w w' := by
  have HT := hide (fun (U : World) (b : Below w.heap.size w U) => hT.below b)
  have BB := hide (Below.refl w.heap.size w)
  have HB1 := hide (fun (U : World) (b : Below w.heap.size w U) => hB1.mono (w' := U) (hi' := U.heap.size) (fun b' o _ hb => b.cell (p := ⟨b', o, none⟩) hb) (Nat.le_refl _) b.size)
  have HB2 := hide (fun (U : World) (b : Below w.heap.size w U) => hB2.mono (w' := U) (hi' := U.heap.size) (fun b' o _ hb => b.cell (p := ⟨b', o, none⟩) hb) (Nat.le_refl _) b.size)
  have HD1 := hide hD1.prog
  have HD2 := hide hD2.prog
  have hcode := parM_code hp
  have HPA := hide (parse_kerr hs hp)
  have heq := fault_ne hcode (clamp (str s) o0 : Nat) (atR (clamp (str s) o0) 0 1 1 (ru s)).1 (atR (clamp (str s) o0) 0 1 1 (ru s)).2
  subst h1
  clear hT hB1 hB2 hD1 hD2 hp hcode
  go_enter Tryz.func5, Tryz.ntmps5
  go_upto_region 5 with (first
    | (go_at_call 14; refine (HPA.out _ (HT.out _ BB.out)).mono ?_; rintro e w1 ⟨rfl, b1⟩; have b1' := alloc_v (alloc_v b1 (.cells zcells 26)) (.cells (fcells s c0 o0) 44); have FB := hide (FaultIs.new w1 (.cells zcells 26) (fcells s c0 o0)); have BN := hide (trans_v BB.out b1'); clear BB b1 b1'; have BB := BN; clear BN; obtain ⟨f0, f1, f2, f3⟩ := FB.out.cells)
    | (go_at_call 6; refine (HD1.out _ _ (HT.out _ BB.out) (HB1.out _ BB.out)).mono ?_; clear HD1 FB f0 f1 f2 f3 heq; rintro e w3 ⟨s3, rfl, i3, b3⟩; obtain ⟨xa, xc, rfl, _⟩ := i3.len; have b3' := alloc_v b3 (.cells (vcells v1 (.slice xa v1.items.length xc)) 26); have K1 := hide (Kv.new w3 v1 xa xc (n1 + 1) (i3.at (fun b h => h.2))); have BN := hide (trans_v BB.out b3'); clear BB b3 b3' i3; have BB := BN; clear BN))
  generalize w3.heap.size = b1 at *
  go_wp2_with (go_at_call 6; refine (HD2.out _ _ (HT.out _ BB.out) (HB2.out _ BB.out)).mono ?_; clear HD2; rintro e w4 ⟨s4, rfl, i4, b4⟩; obtain ⟨ya, yc, rfl, _⟩ := i4.len; have b4' := alloc_v b4 (.cells (vcells v2 (.slice ya v2.items.length yc)) 26); have K2 := hide (Kv.new w4 v2 ya yc (n2 + 1) (i4.at (fun b h => h.2))); have KN := hide (K1.out.below b4'); have BN := hide (trans_v BB.out b4'); clear BB b4 b4' i4 K1; have BB := BN; have K1 := KN; clear BN KN; obtain ⟨x0, x1, x2, x3, x4⟩ := K1.out.cells)
  generalize w4.heap.size = b2 at *
  go_wp2_with (go_at_call 8; refine (num4_k _ _).mono ?_; rintro e wq ⟨rfl, rfl⟩)
  generalize hWC : World.alloc _ _ = WC at *
  have hany := Wv.any WC
  refine wp_region_grown (by kernel_rfl) (by kernel_rfl) ?_
  repeat (go_big_quiet_step (first
    | (go_at_call 8; exact (num4_k _ _).mono fun _ _ h => ⟨h.1, ⟨_, h.2.symm⟩⟩)))
  refine wpQuiet_nil ?_
  intro w8 hw'
  obtain ⟨q, rfl⟩ := hw'
  have HL := hide (alive4_k q.val (HT.out _ (trans_v BB.out q.below)))
  have BQ := hide (trans_v BB.out q.below)
  clear hany
  go_wp2_with (go_at_call 10; refine HL.out.mono ?_; clear HL; rintro e w9 ⟨rfl, b9⟩; have B9 := hide b9; clear b9)
  go_ret
  exact ⟨rfl, trans_v BQ.out B9.out⟩
set_option maxRecDepth 100000 in
set_option maxHeartbeats 8000000 in
theorem given_bad_one (s l1 l2 : List UInt8) (w : World) (a1 a2 : Option Addr) (cp1 cp2 n1 n2 p1 p2 : Nat) (v1 v2 : Vl) (c1 c2 : Int) (hT : Tabs w) (hB1 : BytesIn w 0 w.heap.size (.slice a1 l1.length cp1) l1) (hB2 : BytesIn w 0 w.heap.size (.slice a2 l2.length cp2) l2) (hs : s.length ≤ 1048576) (hD1 : DecG l1 (n1 + 1) v1 p1 c1) (hD2 : DecG l2 (n2 + 1) v2 p2 c2) (c0 : Int) (o0 : Nat) (hp : parM s = .error (c0, o0)) (h1 : c1 = 0) (h2 : c2 = 41) :
    Calls Tryz.prog 5 #[.string (str s), .slice a1 l1.length cp1, .slice a2 l2.length cp2] w fun e w' => e = .returned (.bool true) ∧ Below w.heap.size w w' := by
  have HT := hide (fun (U : World) (b : Below w.heap.size w U) => hT.below b)
  have BB := hide (Below.refl w.heap.size w)
  have HB1 := hide (fun (U : World) (b : Below w.heap.size w U) => hB1.mono (w' := U) (hi' := U.heap.size) (fun b' o _ hb => b.cell (p := ⟨b', o, none⟩) hb) (Nat.le_refl _) b.size)
  have HB2 := hide (fun (U : World) (b : Below w.heap.size w U) => hB2.mono (w' := U) (hi' := U.heap.size) (fun b' o _ hb => b.cell (p := ⟨b', o, none⟩) hb) (Nat.le_refl _) b.size)
  have HD1 := hide hD1.prog
  have HD2 := hide hD2.prog
  have hcode := parM_code hp
  have HPA := hide (parse_kerr hs hp)
  have heq := fault_ne hcode (clamp (str s) o0 : Nat) (atR (clamp (str s) o0) 0 1 1 (ru s)).1 (atR (clamp (str s) o0) 0 1 1 (ru s)).2
  subst h1
  obtain ⟨r1, q1, q2, q3⟩ := hD1.right rfl
  have HR1 := hide (And.intro r1 hD1.ok.1)
  have hp1 : ¬ ((p1 : Nat) : Int) < 1 := by omega
  have hp2 : ¬ ((l1.length : Nat) : Int) < ((p1 : Nat) : Int) := by omega
  subst h2
  clear hT hB1 hB2 hD1 hD2 hp r1 q1 q2 q3 hcode
  go_enter Tryz.func5, Tryz.ntmps5
  go_upto_region 5 with (first
    | (go_at_call 14; refine (HPA.out _ (HT.out _ BB.out)).mono ?_; rintro e w1 ⟨rfl, b1⟩; have b1' := alloc_v (alloc_v b1 (.cells zcells 26)) (.cells (fcells s c0 o0) 44); have FB := hide (FaultIs.new w1 (.cells zcells 26) (fcells s c0 o0)); have BN := hide (trans_v BB.out b1'); clear BB b1 b1'; have BB := BN; clear BN; obtain ⟨f0, f1, f2, f3⟩ := FB.out.cells)
    | (go_at_call 6; refine (HD1.out _ _ (HT.out _ BB.out) (HB1.out _ BB.out)).mono ?_; clear HD1 FB f0 f1 f2 f3 heq; rintro e w3 ⟨s3, rfl, i3, b3⟩; obtain ⟨xa, xc, rfl, _⟩ := i3.len; have b3' := alloc_v b3 (.cells (vcells v1 (.slice xa v1.items.length xc)) 26); have K1 := hide (Kv.new w3 v1 xa xc (n1 + 1) (i3.at (fun b h => h.2))); have BN := hide (trans_v BB.out b3'); clear BB b3 b3' i3; have BB := BN; clear BN))
  generalize w3.heap.size = b1 at *
  go_wp2_with (go_at_call 6; refine (HD2.out _ _ (HT.out _ BB.out) (HB2.out _ BB.out)).mono ?_; clear HD2; rintro e w4 ⟨s4, rfl, i4, b4⟩; obtain ⟨ya, yc, rfl, _⟩ := i4.len; have b4' := alloc_v b4 (.cells (vcells v2 (.slice ya v2.items.length yc)) 26); have K2 := hide (Kv.new w4 v2 ya yc (n2 + 1) (i4.at (fun b h => h.2))); have KN := hide (K1.out.below b4'); have BN := hide (trans_v BB.out b4'); clear BB b4 b4' i4 K1; have BB := BN; have K1 := KN; clear BN KN; obtain ⟨x0, x1, x2, x3, x4⟩ := K1.out.cells)
  generalize w4.heap.size = b2 at *
  go_wp2_with (first
    | (go_at_call 8; refine (num4_k _ _).mono ?_; rintro e wq ⟨rfl, rfl⟩)
    | (go_at_call 13; refine (check_ok HR1.out.1 _ (n1 + 1) _ (HT.out _ BB.out) HR1.out.2 K1.out.2).mono ?_; clear x0 x1 x2 x3 x4; rintro e WC ⟨rfl, b5⟩; have KN := hide (K1.out.below b5); have KN2 := hide (K2.out.below b5); have BN := hide (trans_v BB.out b5); clear BB b5 K1 K2; have BB := BN; have K1 := KN; have K2 := KN2; clear BN KN KN2))
  have hany := Wv.any WC
  refine wp_region_grown (by kernel_rfl) (by kernel_rfl) ?_
  repeat (go_big_quiet_step (first
    | (go_at_call 8; exact (num4_k _ _).mono fun _ _ h => ⟨h.1, ⟨_, h.2.symm⟩⟩)))
  refine wpQuiet_nil ?_
  intro w8 hw'
  obtain ⟨q, rfl⟩ := hw'
  have HL := hide (alive4_k q.val (HT.out _ (trans_v BB.out q.below)))
  have BQ := hide (trans_v BB.out q.below)
  clear hany
  go_wp2_with (go_at_call 10; refine HL.out.mono ?_; clear HL; rintro e w9 ⟨rfl, b9⟩; have B9 := hide b9; clear b9)
  go_ret
  exact ⟨rfl, trans_v BQ.out B9.out⟩
set_option maxRecDepth 100000 in
set_option maxHeartbeats 8000000 in
theorem given_bad_eq (s l1 l2 : List UInt8) (w : World) (a1 a2 : Option Addr) (cp1 cp2 n1 n2 p1 p2 : Nat) (v1 v2 : Vl) (c1 c2 : Int) (hT : Tabs w) (hB1 : BytesIn w 0 w.heap.size (.slice a1 l1.length cp1) l1) (hB2 : BytesIn w 0 w.heap.size (.slice a2 l2.length cp2) l2) (hs : s.length ≤ 1048576) (hD1 : DecG l1 (n1 + 1) v1 p1 c1) (hD2 : DecG l2 (n2 + 1) v2 p2 c2) (c0 : Int) (o0 : Nat) (hp : parM s = .error (c0, o0)) (h1 : c1 = 0) (h2 : c2 = 0) (hv : v1 = v2) :
    Calls Tryz.prog 5 #[.string (str s), .slice a1 l1.length cp1, .slice a2 l2.length cp2] w fun e w' => e = .returned (.bool true) ∧ Below w.heap.size w w' := by
  have HT := hide (fun (U : World) (b : Below w.heap.size w U) => hT.below b)
  have BB := hide (Below.refl w.heap.size w)
  have HB1 := hide (fun (U : World) (b : Below w.heap.size w U) => hB1.mono (w' := U) (hi' := U.heap.size) (fun b' o _ hb => b.cell (p := ⟨b', o, none⟩) hb) (Nat.le_refl _) b.size)
  have HB2 := hide (fun (U : World) (b : Below w.heap.size w U) => hB2.mono (w' := U) (hi' := U.heap.size) (fun b' o _ hb => b.cell (p := ⟨b', o, none⟩) hb) (Nat.le_refl _) b.size)
  have HD1 := hide hD1.prog
  have HD2 := hide hD2.prog
  have hcode := parM_code hp
  have HPA := hide (parse_kerr hs hp)
  have heq := fault_ne hcode (clamp (str s) o0 : Nat) (atR (clamp (str s) o0) 0 1 1 (ru s)).1 (atR (clamp (str s) o0) 0 1 1 (ru s)).2
  subst h1
  obtain ⟨r1, q1, q2, q3⟩ := hD1.right rfl
  have HR1 := hide (And.intro r1 hD1.ok.1)
  have hp1 : ¬ ((p1 : Nat) : Int) < 1 := by omega
  have hp2 : ¬ ((l1.length : Nat) : Int) < ((p1 : Nat) : Int) := by omega
  subst h2
  obtain ⟨r2, q4, q5, q6⟩ := hD2.right rfl
  have hx1 := hB1.len
  have hsl1 : ∀ w : World, (Instr.slice 22 (.slice a1 l1.length cp1) none (some (.int .i64 ((p1 : Nat) : Int))) none).run Tryz.prog w = .ok (.slice a1 p1 cp1) w := slice_hiG hB1 p1 q2
  have hsl2 : ∀ w : World, (Instr.slice 22 (.slice a2 l2.length cp2) none (some (.int .i64 ((p2 : Nat) : Int))) none).run Tryz.prog w = .ok (.slice a2 p2 cp2) w := slice_hiG hB2 p2 q5
  have HC1 := hide (fun (U : World) (b : Below w.heap.size w U) => conv_takeG (HB1.out U b) p1 q2)
  have HC2 := hide (fun (U : World) (b : Below w.heap.size w U) => conv_takeG (HB2.out U b) p2 q5)
  rw [q3] at HC1
  rw [q6] at HC2
  have HCM := hide (fun (U : World) (b : Below w.heap.size w U) (m1 m2 : Nat) (x1 x2 : Value) (i1 : ItemsAt U U.heap.size m1 x1 v1.items) (i2 : ItemsAt U U.heap.size m2 x2 v2.items) => compare_k v1 v2 U m1 m2 x1 x2 (HT.out U b) hD1.ok.1 hD2.ok.1 i1 i2)
  rw [cmp_right r1 r2] at HCM
  subst hv
  rw [ordV_self] at HCM
  generalize bytesOf (encV v1) = e1 at *
  clear hT hB1 hB2 hD1 hD2 hp r1 q1 q2 q3 r2 q4 q5 q6 hx1 hcode
  go_enter Tryz.func5, Tryz.ntmps5
  go_upto_region 5 with (first
    | (go_at_call 14; refine (HPA.out _ (HT.out _ BB.out)).mono ?_; rintro e w1 ⟨rfl, b1⟩; have b1' := alloc_v (alloc_v b1 (.cells zcells 26)) (.cells (fcells s c0 o0) 44); have FB := hide (FaultIs.new w1 (.cells zcells 26) (fcells s c0 o0)); have BN := hide (trans_v BB.out b1'); clear BB b1 b1'; have BB := BN; clear BN; obtain ⟨f0, f1, f2, f3⟩ := FB.out.cells)
    | (go_at_call 6; refine (HD1.out _ _ (HT.out _ BB.out) (HB1.out _ BB.out)).mono ?_; clear HD1 FB f0 f1 f2 f3 heq; rintro e w3 ⟨s3, rfl, i3, b3⟩; obtain ⟨xa, xc, rfl, _⟩ := i3.len; have b3' := alloc_v b3 (.cells (vcells v1 (.slice xa v1.items.length xc)) 26); have K1 := hide (Kv.new w3 v1 xa xc (n1 + 1) (i3.at (fun b h => h.2))); have BN := hide (trans_v BB.out b3'); clear BB b3 b3' i3; have BB := BN; clear BN))
  generalize w3.heap.size = b1 at *
  go_wp2_with (go_at_call 6; refine (HD2.out _ _ (HT.out _ BB.out) (HB2.out _ BB.out)).mono ?_; clear HD2; rintro e w4 ⟨s4, rfl, i4, b4⟩; obtain ⟨ya, yc, rfl, _⟩ := i4.len; have b4' := alloc_v b4 (.cells (vcells v1 (.slice ya v1.items.length yc)) 26); have K2 := hide (Kv.new w4 v1 ya yc (n2 + 1) (i4.at (fun b h => h.2))); have KN := hide (K1.out.below b4'); have BN := hide (trans_v BB.out b4'); clear BB b4 b4' i4 K1; have BB := BN; have K1 := KN; clear BN KN; obtain ⟨x0, x1, x2, x3, x4⟩ := K1.out.cells)
  generalize w4.heap.size = b2 at *
  go_wp2_with (first
    | (go_at_call 8; refine (num4_k _ _).mono ?_; rintro e wq ⟨rfl, rfl⟩)
    | (go_at_call 13; refine (check_ok HR1.out.1 _ (n1 + 1) _ (HT.out _ BB.out) HR1.out.2 K1.out.2).mono ?_; clear x0 x1 x2 x3 x4; rintro e WC ⟨rfl, b5⟩; have KN := hide (K1.out.below b5); have KN2 := hide (K2.out.below b5); have BN := hide (trans_v BB.out b5); clear BB b5 K1 K2; have BB := BN; have K1 := KN; have K2 := KN2; clear BN KN KN2))
  have hany := Wv.any WC
  have u0 := fun q : Wv WC => q.cell K1.out.cells.1
  have u1 := fun q : Wv WC => q.cell K1.out.cells.2.1
  have u2 := fun q : Wv WC => q.cell K1.out.cells.2.2.1
  have u3 := fun q : Wv WC => q.cell K1.out.cells.2.2.2.1
  have u4 := fun q : Wv WC => q.cell K1.out.cells.2.2.2.2
  have y0 := fun q : Wv WC => q.cell K2.out.cells.1
  have y1 := fun q : Wv WC => q.cell K2.out.cells.2.1
  have y2 := fun q : Wv WC => q.cell K2.out.cells.2.2.1
  have y3 := fun q : Wv WC => q.cell K2.out.cells.2.2.2.1
  have y4 := fun q : Wv WC => q.cell K2.out.cells.2.2.2.2
  have g1 := fun q : Wv WC => HC1.out q.val (trans_v BB.out q.below)
  have g2 := fun q : Wv WC => HC2.out q.val (trans_v BB.out q.below)
  have HCM2 := hide (fun q : Wv WC => HCM.out q.val (trans_v BB.out q.below) _ _ _ _ (K1.out.below q.below).2 (K2.out.below q.below).2)
  refine wp_region_grown (by kernel_rfl) (by kernel_rfl) ?_
  repeat (go_big_quiet_step (first
    | (go_at_call 8; exact (num4_k _ _).mono fun _ _ h => ⟨h.1, ⟨_, h.2.symm⟩⟩)
    | (go_at_call 15; exact Wv.calls _ (HCM2.out _))))
  refine wpQuiet_nil ?_
  intro w8 hw'
  obtain ⟨q, rfl⟩ := hw'
  clear u0 u1 u2 u3 u4 y0 y1 y2 y3 y4 g1 g2
  have HL := hide (alive4_k q.val (HT.out _ (trans_v BB.out q.below)))
  have BQ := hide (trans_v BB.out q.below)
  clear hany
  go_wp2_with (go_at_call 10; refine HL.out.mono ?_; clear HL; rintro e w9 ⟨rfl, b9⟩; have B9 := hide b9; clear b9)
  go_ret
  exact ⟨rfl, trans_v BQ.out B9.out⟩
set_option maxRecDepth 100000 in
set_option maxHeartbeats 8000000 in
theorem given_bad_ne (s l1 l2 : List UInt8) (w : World) (a1 a2 : Option Addr) (cp1 cp2 n1 n2 p1 p2 : Nat) (v1 v2 : Vl) (c1 c2 : Int) (hT : Tabs w) (hB1 : BytesIn w 0 w.heap.size (.slice a1 l1.length cp1) l1) (hB2 : BytesIn w 0 w.heap.size (.slice a2 l2.length cp2) l2) (hs : s.length ≤ 1048576) (hD1 : DecG l1 (n1 + 1) v1 p1 c1) (hD2 : DecG l2 (n2 + 1) v2 p2 c2) (c0 : Int) (o0 : Nat) (hp : parM s = .error (c0, o0)) (h1 : c1 = 0) (h2 : c2 = 0) (hv : v1 ≠ v2) :
    Calls Tryz.prog 5 #[.string (str s), .slice a1 l1.length cp1, .slice a2 l2.length cp2] w fun e w' => e = .returned (.bool true) ∧ Below w.heap.size w w' := by
  have HT := hide (fun (U : World) (b : Below w.heap.size w U) => hT.below b)
  have BB := hide (Below.refl w.heap.size w)
  have HB1 := hide (fun (U : World) (b : Below w.heap.size w U) => hB1.mono (w' := U) (hi' := U.heap.size) (fun b' o _ hb => b.cell (p := ⟨b', o, none⟩) hb) (Nat.le_refl _) b.size)
  have HB2 := hide (fun (U : World) (b : Below w.heap.size w U) => hB2.mono (w' := U) (hi' := U.heap.size) (fun b' o _ hb => b.cell (p := ⟨b', o, none⟩) hb) (Nat.le_refl _) b.size)
  have HD1 := hide hD1.prog
  have HD2 := hide hD2.prog
  have hcode := parM_code hp
  have HPA := hide (parse_kerr hs hp)
  have heq := fault_ne hcode (clamp (str s) o0 : Nat) (atR (clamp (str s) o0) 0 1 1 (ru s)).1 (atR (clamp (str s) o0) 0 1 1 (ru s)).2
  subst h1
  obtain ⟨r1, q1, q2, q3⟩ := hD1.right rfl
  have HR1 := hide (And.intro r1 hD1.ok.1)
  have hp1 : ¬ ((p1 : Nat) : Int) < 1 := by omega
  have hp2 : ¬ ((l1.length : Nat) : Int) < ((p1 : Nat) : Int) := by omega
  subst h2
  obtain ⟨r2, q4, q5, q6⟩ := hD2.right rfl
  have hx1 := hB1.len
  have hsl1 : ∀ w : World, (Instr.slice 22 (.slice a1 l1.length cp1) none (some (.int .i64 ((p1 : Nat) : Int))) none).run Tryz.prog w = .ok (.slice a1 p1 cp1) w := slice_hiG hB1 p1 q2
  have hsl2 : ∀ w : World, (Instr.slice 22 (.slice a2 l2.length cp2) none (some (.int .i64 ((p2 : Nat) : Int))) none).run Tryz.prog w = .ok (.slice a2 p2 cp2) w := slice_hiG hB2 p2 q5
  have HC1 := hide (fun (U : World) (b : Below w.heap.size w U) => conv_takeG (HB1.out U b) p1 q2)
  have HC2 := hide (fun (U : World) (b : Below w.heap.size w U) => conv_takeG (HB2.out U b) p2 q5)
  rw [q3] at HC1
  rw [q6] at HC2
  have HCM := hide (fun (U : World) (b : Below w.heap.size w U) (m1 m2 : Nat) (x1 x2 : Value) (i1 : ItemsAt U U.heap.size m1 x1 v1.items) (i2 : ItemsAt U U.heap.size m2 x2 v2.items) => compare_k v1 v2 U m1 m2 x1 x2 (HT.out U b) hD1.ok.1 hD2.ok.1 i1 i2)
  rw [cmp_right r1 r2] at HCM
  have hz : (ordV v1 v2 == 0) = false := by
    cases h : ordV v1 v2 == 0 with
    | false => rfl
    | true => exact absurd (ordV_zero (beq_iff_eq.1 h)) hv
  have hst : ((bytesOf (encV v1)).toList == (bytesOf (encV v2)).toList) = false := by
    cases h : (bytesOf (encV v1)).toList == (bytesOf (encV v2)).toList with
    | false => rfl
    | true =>
      have h' := beq_iff_eq.1 h
      rw [Lib.toList_data, Lib.toList_data] at h'
      exact absurd (enc_eq (right_form r1) (right_form r2) h') hv
  generalize ordV v1 v2 = z at *
  generalize bytesOf (encV v1) = e1 at *
  generalize bytesOf (encV v2) = e2 at *
  clear hT hB1 hB2 hD1 hD2 hp r1 q1 q2 q3 r2 q4 q5 q6 hx1 hv hcode
  go_enter Tryz.func5, Tryz.ntmps5
  go_upto_region 5 with (first
    | (go_at_call 14; refine (HPA.out _ (HT.out _ BB.out)).mono ?_; rintro e w1 ⟨rfl, b1⟩; have b1' := alloc_v (alloc_v b1 (.cells zcells 26)) (.cells (fcells s c0 o0) 44); have FB := hide (FaultIs.new w1 (.cells zcells 26) (fcells s c0 o0)); have BN := hide (trans_v BB.out b1'); clear BB b1 b1'; have BB := BN; clear BN; obtain ⟨f0, f1, f2, f3⟩ := FB.out.cells)
    | (go_at_call 6; refine (HD1.out _ _ (HT.out _ BB.out) (HB1.out _ BB.out)).mono ?_; clear HD1 FB f0 f1 f2 f3 heq; rintro e w3 ⟨s3, rfl, i3, b3⟩; obtain ⟨xa, xc, rfl, _⟩ := i3.len; have b3' := alloc_v b3 (.cells (vcells v1 (.slice xa v1.items.length xc)) 26); have K1 := hide (Kv.new w3 v1 xa xc (n1 + 1) (i3.at (fun b h => h.2))); have BN := hide (trans_v BB.out b3'); clear BB b3 b3' i3; have BB := BN; clear BN))
  generalize w3.heap.size = b1 at *
  go_wp2_with (go_at_call 6; refine (HD2.out _ _ (HT.out _ BB.out) (HB2.out _ BB.out)).mono ?_; clear HD2; rintro e w4 ⟨s4, rfl, i4, b4⟩; obtain ⟨ya, yc, rfl, _⟩ := i4.len; have b4' := alloc_v b4 (.cells (vcells v2 (.slice ya v2.items.length yc)) 26); have K2 := hide (Kv.new w4 v2 ya yc (n2 + 1) (i4.at (fun b h => h.2))); have KN := hide (K1.out.below b4'); have BN := hide (trans_v BB.out b4'); clear BB b4 b4' i4 K1; have BB := BN; have K1 := KN; clear BN KN; obtain ⟨x0, x1, x2, x3, x4⟩ := K1.out.cells)
  generalize w4.heap.size = b2 at *
  go_wp2_with (first
    | (go_at_call 8; refine (num4_k _ _).mono ?_; rintro e wq ⟨rfl, rfl⟩)
    | (go_at_call 13; refine (check_ok HR1.out.1 _ (n1 + 1) _ (HT.out _ BB.out) HR1.out.2 K1.out.2).mono ?_; clear x0 x1 x2 x3 x4; rintro e WC ⟨rfl, b5⟩; have KN := hide (K1.out.below b5); have KN2 := hide (K2.out.below b5); have BN := hide (trans_v BB.out b5); clear BB b5 K1 K2; have BB := BN; have K1 := KN; have K2 := KN2; clear BN KN KN2))
  have hany := Wv.any WC
  have u0 := fun q : Wv WC => q.cell K1.out.cells.1
  have u1 := fun q : Wv WC => q.cell K1.out.cells.2.1
  have u2 := fun q : Wv WC => q.cell K1.out.cells.2.2.1
  have u3 := fun q : Wv WC => q.cell K1.out.cells.2.2.2.1
  have u4 := fun q : Wv WC => q.cell K1.out.cells.2.2.2.2
  have y0 := fun q : Wv WC => q.cell K2.out.cells.1
  have y1 := fun q : Wv WC => q.cell K2.out.cells.2.1
  have y2 := fun q : Wv WC => q.cell K2.out.cells.2.2.1
  have y3 := fun q : Wv WC => q.cell K2.out.cells.2.2.2.1
  have y4 := fun q : Wv WC => q.cell K2.out.cells.2.2.2.2
  have g1 := fun q : Wv WC => HC1.out q.val (trans_v BB.out q.below)
  have g2 := fun q : Wv WC => HC2.out q.val (trans_v BB.out q.below)
  have HCM2 := hide (fun q : Wv WC => HCM.out q.val (trans_v BB.out q.below) _ _ _ _ (K1.out.below q.below).2 (K2.out.below q.below).2)
  refine wp_region_grown (by kernel_rfl) (by kernel_rfl) ?_
  repeat (go_big_quiet_step (first
    | (go_at_call 8; exact (num4_k _ _).mono fun _ _ h => ⟨h.1, ⟨_, h.2.symm⟩⟩)
    | (go_at_call 15; exact Wv.calls _ (HCM2.out _))))
  refine wpQuiet_nil ?_
  intro w8 hw'
  obtain ⟨q, rfl⟩ := hw'
  clear u0 u1 u2 u3 u4 y0 y1 y2 y3 y4 g1 g2
  have HL := hide (alive4_k q.val (HT.out _ (trans_v BB.out q.below)))
  have BQ := hide (trans_v BB.out q.below)
  clear hany
  go_wp2_with (go_at_call 10; refine HL.out.mono ?_; clear HL; rintro e w9 ⟨rfl, b9⟩; have B9 := hide b9; clear b9)
  go_ret
  exact ⟨rfl, trans_v BQ.out B9.out⟩
theorem valueGiven_walk (s l1 l2 : List UInt8) (w : World) (sl1 sl2 : Value) (hT : Tabs w) (hB1 : BytesIn w 0 w.heap.size sl1 l1) (hB2 : BytesIn w 0 w.heap.size sl2 l2) (hs : s.length ≤ 1048576) (hl1 : l1.length ≤ 1048576) (hl2 : l2.length ≤ 1048576) :
    Calls Tryz.prog 5 #[.string (str s), sl1, sl2] w fun e w' => e = .returned (.bool true) ∧ Below w.heap.size w w' := by
  obtain ⟨n1, v1, p1, c1, hD1⟩ := dec_given l1 hl1
  obtain ⟨n2, v2, p2, c2, hD2⟩ := dec_given l2 hl2
  obtain ⟨a1, cp1, rfl, _⟩ := id hB1
  obtain ⟨a2, cp2, rfl, _⟩ := id hB2
  cases hp : parM s with
  | ok v0 =>
    rcases hD1.code with h1 | h1
    · rcases hD2.code with h2 | h2
      · by_cases hv : v1 = v2
        · exact given_ok_eq s l1 l2 w a1 a2 cp1 cp2 n1 n2 p1 p2 v1 v2 c1 c2 hT hB1 hB2 hs hD1 hD2 v0 hp h1 h2 hv
        · exact given_ok_ne s l1 l2 w a1 a2 cp1 cp2 n1 n2 p1 p2 v1 v2 c1 c2 hT hB1 hB2 hs hD1 hD2 v0 hp h1 h2 hv
      · exact given_ok_one s l1 l2 w a1 a2 cp1 cp2 n1 n2 p1 p2 v1 v2 c1 c2 hT hB1 hB2 hs hD1 hD2 v0 hp h1 h2
    · exact given_ok_no s l1 l2 w a1 a2 cp1 cp2 n1 n2 p1 p2 v1 v2 c1 c2 hT hB1 hB2 hs hD1 hD2 v0 hp h1
  | error z =>
    obtain ⟨c0, o0⟩ := z
    rcases hD1.code with h1 | h1
    · rcases hD2.code with h2 | h2
      · by_cases hv : v1 = v2
        · exact given_bad_eq s l1 l2 w a1 a2 cp1 cp2 n1 n2 p1 p2 v1 v2 c1 c2 hT hB1 hB2 hs hD1 hD2 c0 o0 hp h1 h2 hv
        · exact given_bad_ne s l1 l2 w a1 a2 cp1 cp2 n1 n2 p1 p2 v1 v2 c1 c2 hT hB1 hB2 hs hD1 hD2 c0 o0 hp h1 h2 hv
      · exact given_bad_one s l1 l2 w a1 a2 cp1 cp2 n1 n2 p1 p2 v1 v2 c1 c2 hT hB1 hB2 hs hD1 hD2 c0 o0 hp h1 h2
    · exact given_bad_no s l1 l2 w a1 a2 cp1 cp2 n1 n2 p1 p2 v1 v2 c1 c2 hT hB1 hB2 hs hD1 hD2 c0 o0 hp h1
theorem valueGiven_walkS (s : ByteArray) (l1 l2 : List UInt8) (w : World) (sl1 sl2 : Value) (hT : Tabs w) (hB1 : BytesIn w 0 w.heap.size sl1 l1) (hB2 : BytesIn w 0 w.heap.size sl2 l2) (hs : s.data.toList.length ≤ 1048576) (hl1 : l1.length ≤ 1048576) (hl2 : l2.length ≤ 1048576) :
    Calls Tryz.prog 5 #[.string s, sl1, sl2] w fun e w' => e = .returned (.bool true) ∧ Below w.heap.size w w' := by
  have h := valueGiven_walk s.data.toList l1 l2 w sl1 sl2 hT hB1 hB2 hs hl1 hl2
  rwa [str_bytes] at h
end Go.Proofs.YtngnlofjjlkcmaaGreatDoor

/- ValueBack answers true: the walk. -/
namespace Go.Proofs.YtngnlofjjlkcmaaGreatDoor
open Go.RowKit

theorem run_append_bytesG (w : World) (base : Nat) (ty : TypeId) (v : Value) (n : Nat) (xs : List Value) (hown : w.ownsRow base 5 1 v n xs) (x : Value) (l : List UInt8) (hb : Bytes w x l)
    (hn : n + l.length ≤ 140737488355328) (hbase : base ≤ w.heap.size) :
    ∃ v' w', (Builtin.append_ #[22, 22] ty #[v, x]).run Tryz.prog w = .ok v' w' ∧ w'.ownsRow base 5 1 v' (n + l.length) (xs ++ cellsOf l) ∧ w.grownBy w' v.ownBlock := by
  obtain ⟨i0, hi, hz0, hz1, hz2⟩ := info_parts info_u8
  obtain ⟨a, c, rfl, _⟩ := id hb
  rcases a with _ | ad
  · have : l = [] := by
      rcases hb.elim with ⟨h, _⟩ | ⟨_, b, off, c, h, _⟩
      · exact h
      · cases h
    subst this
    refine ⟨v, w, ?_, by simpa [cellsOf] using hown, grownBy_refl _ _⟩
    rcases hown.2 with ⟨rfl, rfl⟩ | ⟨g, cap, cur, rfl, hbg, hg, hnc, hcm, hcs, htake⟩
    · simp [Builtin.append_, run_underlying Tryz.underlying22, sizeOf, typeInfo, hi, Builtin.lenOf, Builtin.firstCells]
    · simp [Builtin.append_, run_underlying Tryz.underlying22, sizeOf, typeInfo, hi, Builtin.lenOf, Builtin.firstCells, hnc, storeCells]
  · obtain ⟨v', w', h1, h2, h3, _⟩ := run_append_own (P := Tryz.prog) w base 22 ty 5 i0 (.int .u8 0) 1 1 Tryz.underlying22 hi hz0 hz1 hz2 rfl (by decide) v n xs hown ad l.length c (cellsOf l) (by rw [cellsOf_length, Nat.mul_one]) hb.cells (cellsOf_one l) (by unfold maxLen; omega) (by omega) hbase
    exact ⟨v', w', h1, h2, h3⟩
theorem BytesIn.belowB {w w' : World} {v : Value} {l : List UInt8} (h : BytesIn w 0 w.heap.size v l) (hb : Below w.heap.size w w') : BytesIn w' 0 w'.heap.size v l :=
  h.mono (fun b o _ hb' => hb.cell (p := ⟨b, o, none⟩) hb') (Nat.le_refl _) hb.size
/-- A row of one's own put together of two. -/
theorem two_rows (w : World) (sl1 sl2 : Value) (l1 l2 : List UInt8) (h1 : BytesIn w 0 w.heap.size sl1 l1) (h2 : BytesIn w 0 w.heap.size sl2 l2) (hl : l1.length + l2.length ≤ 140737488355328) (ty1 ty2 : TypeId) :
    ∃ v1 w1 v2 w2, (Builtin.append_ #[22, 22] ty1 #[.slice none 0 0, sl1]).run Tryz.prog w = .ok v1 w1 ∧ (Builtin.append_ #[22, 22] ty2 #[v1, sl2]).run Tryz.prog w1 = .ok v2 w2 ∧ BytesIn w2 0 w2.heap.size v2 (l1 ++ l2) ∧ Below w.heap.size w w2 := by
  obtain ⟨v1, w1, hrun1, hown1, hgr1⟩ := run_append_bytesG w w.heap.size ty1 (.slice none 0 0) 0 [] (World.ownsRow_nil _ _ _ _) sl1 l1 h1.plain (by omega) (Nat.le_refl _)
  rw [Nat.zero_add, List.nil_append] at hown1
  have b1 : Below w.heap.size w w1 := ⟨hgr1.os, hgr1.tape, hgr1.output, hgr1.size, fun k hk => hgr1.block k hk (by simp [Value.ownBlock])⟩
  obtain ⟨v2, w2, hrun2, hown2, hgr2⟩ := run_append_bytesG w1 w.heap.size ty2 v1 l1.length (cellsOf l1) hown1 sl2 l2 (h2.belowB b1).plain (by omega) b1.size
  have hown3 : w2.ownsRow w.heap.size 5 1 v2 (l1 ++ l2).length (cellsOf (l1 ++ l2)) := by
    rw [List.length_append, show cellsOf (l1 ++ l2) = cellsOf l1 ++ cellsOf l2 from List.map_append]
    exact hown2
  exact ⟨v1, w1, v2, w2, hrun1, hrun2, (ownsRow_bytes hown3).2.mono (fun _ _ _ _ => rfl) (Nat.zero_le _) (Nat.le_refl _), b1.grown hgr2 b1.size (fun k hk => (hown1.lt k hk).1)⟩
theorem alike_same (v : Vl) (w : World) (n m : Nat) (sa sb : Value) (ha : ItemsAt w w.heap.size n sa v.items) (hb : ItemsAt w w.heap.size m sb v.items) :
    Calls Tryz.prog 9 #[.agg (vcells v sa), .agg (vcells v sb)] w fun e w' => e = .returned (.bool true) ∧ Below w.heap.size w w' := by
  have h := alike_k n v v w w.heap.size m sa sb (Nat.le_refl _) ha hb
  rw [ordV_self] at h
  exact h
theorem check_no {v : Vl} (hr : rightV v = false) (w : World) (n : Nat) (sl : Value) (hT : Tabs w) (htx : v.text.size ≤ 1048576) (hs : ItemsAt w w.heap.size n sl v.items) :
    Calls Tryz.prog 13 #[.agg (vcells v sl)] w fun e w' => e = .returned (.int .i64 40) ∧ Below w.heap.size w w' := by
  have h := check_k v w n sl hT htx hs
  rw [hr] at h
  exact h
theorem enc_no {v : Vl} (hr : rightV v = false) (w : World) (n : Nat) (sl : Value) (hT : Tabs w) (hok : v.ok) (hz : v.size ≤ 1000000000) (hs : ItemsAt w w.heap.size n sl v.items) :
    Calls Tryz.prog 11 #[.agg (vcells v sl)] w fun e w' => ∃ ba bn bc, e = .returned (.tuple #[.slice ba bn bc, .int .i64 40]) ∧ Below w.heap.size w w' := by
  have h := encodeC_k v w n sl hT hok hz hs
  rw [hr] at h
  refine h.mono ?_
  rintro e w' ⟨bv, rfl, R⟩
  obtain ⟨ba, bc, rfl, _⟩ := (ownsRow_bytes R.row).2
  exact ⟨ba, _, bc, rfl, R.gr.os, R.gr.tape, R.gr.output, R.gr.size, fun k hk => R.gr.block k hk (by simp)⟩
theorem enc_yes {v : Vl} (hr : rightV v = true) (w : World) (n : Nat) (sl : Value) (hT : Tabs w) (hok : v.ok) (hz : v.size ≤ 1000000000) (hs : ItemsAt w w.heap.size n sl v.items) :
    Calls Tryz.prog 11 #[.agg (vcells v sl)] w fun e w' => ∃ ba bc, e = .returned (.tuple #[.slice ba (encV v).length bc, .int .i64 0]) ∧ BytesIn w' 0 w'.heap.size (.slice ba (encV v).length bc) (encV v) ∧ Below w.heap.size w w' := by
  have h := encodeC_k v w n sl hT hok hz hs
  rw [hr] at h
  refine h.mono ?_
  rintro e w' ⟨bv, rfl, R⟩
  obtain ⟨ba, bc, rfl, hh⟩ := id (ownsRow_bytes R.row).2
  exact ⟨ba, bc, rfl, (ownsRow_bytes R.row).2.mono (fun _ _ _ _ => rfl) (Nat.zero_le _) (Nat.le_refl _), R.gr.os, R.gr.tape, R.gr.output, R.gr.size, fun k hk => R.gr.block k hk (by simp)⟩
theorem pr_no {v : Vl} (hr : rightV v = false) (w : World) (n : Nat) (sl : Value) (hT : Tabs w) (hok : v.ok) (hz : v.size ≤ 1000000000) (hs : ItemsAt w w.heap.size n sl v.items) :
    Calls Tryz.prog 12 #[.agg (vcells v sl)] w fun e w' => e = .returned (.tuple #[.string ⟨#[]⟩, .int .i64 40]) ∧ Below w.heap.size w w' := by
  have h := printC_kB v w n sl hT hok hz hs
  rw [hr] at h
  exact h
theorem pr_yes {v : Vl} (hr : rightV v = true) (w : World) (n : Nat) (sl : Value) (hT : Tabs w) (hok : v.ok) (hz : v.size ≤ 1000000000) (hs : ItemsAt w w.heap.size n sl v.items) :
    Calls Tryz.prog 12 #[.agg (vcells v sl)] w fun e w' => e = .returned (.tuple #[.string (str (prV v)), .int .i64 0]) ∧ Below w.heap.size w w' := by
  have h := printC_kB v w n sl hT hok hz hs
  rw [hr] at h
  exact h
set_option maxRecDepth 100000 in
set_option maxHeartbeats 8000000 in
theorem back_no (v : Vl) (w : World) (n : Nat) (a : Option Addr) (c : Nat) (a2 : Option Addr) (cp2 : Nat) (l2 : List UInt8) (hT : Tabs w) (hok : v.ok) (hz : v.size ≤ 1000000000) (hs : ItemsAt w w.heap.size n (.slice a v.items.length c) v.items) (_hB2 : BytesIn w 0 w.heap.size (.slice a2 l2.length cp2) l2) (hr : rightV v = false) :
    Calls Tryz.prog 4 #[.agg (vcells v (.slice a v.items.length c)), .slice a2 l2.length cp2] w fun e w' => e = .returned (.bool true) ∧ Below w.heap.size w w' := by
  have HT := hide (fun (U : World) (b : Below w.heap.size w U) => hT.below b)
  have BB := hide (alloc_v (Below.refl w.heap.size w) (.cells (vcells v (.slice a v.items.length c)) 26))
  have KV := hide (Kv.new w v a c n hs)
  obtain ⟨s0, s1, s2, s3, s4⟩ := KV.out.cells
  have HX := hide (And.intro hr (And.intro hok hz))
  clear hT hs hr hok hz
  go_enter Tryz.func4, Tryz.ntmps4
  go_wp2_with (first
    | (go_at_call 11; refine (enc_no HX.out.1 _ n _ (HT.out _ BB.out) HX.out.2.1 HX.out.2.2 KV.out.2).mono ?_; clear s0 s1 s2 s3 s4; rintro e w2 ⟨ba, bn, bc, rfl, b2⟩; have KN := hide (KV.out.below b2); have BN := hide (trans_v BB.out b2); clear BB KV b2; have BB := BN; have KV := KN; clear BN KN; obtain ⟨s0, s1, s2, s3, s4⟩ := KV.out.cells)
    | (go_at_call 12; refine (pr_no HX.out.1 _ n _ (HT.out _ BB.out) HX.out.2.1 HX.out.2.2 KV.out.2).mono ?_; clear s0 s1 s2 s3 s4; rintro e w3 ⟨rfl, b3⟩; have KN := hide (KV.out.below b3); have BN := hide (trans_v BB.out b3); clear BB KV b3; have BB := BN; have KV := KN; clear BN KN; obtain ⟨s0, s1, s2, s3, s4⟩ := KV.out.cells)
    | (go_at_call 13; refine (check_no HX.out.1 _ n _ (HT.out _ BB.out) HX.out.2.1.1 KV.out.2).mono ?_; clear s0 s1 s2 s3 s4; rintro e w4 ⟨rfl, b4⟩; have BN := hide (trans_v BB.out b4); clear BB KV b4; have BB := BN; clear BN)
    | (go_at_call 8; refine (num4_k _ _).mono ?_; rintro e wq ⟨rfl, rfl⟩)
    | (go_at_call 10; refine (alive4_k _ (HT.out _ BB.out)).mono ?_; rintro e w9 ⟨rfl, b9⟩; have BN := hide (trans_v BB.out b9); clear BB b9; have BB := BN; clear BN))
  go_ret
  exact ⟨rfl, BB.out⟩
set_option maxRecDepth 100000 in
set_option maxHeartbeats 8000000 in
theorem back_yes (v : Vl) (w : World) (n : Nat) (a : Option Addr) (c : Nat) (a2 : Option Addr) (cp2 : Nat) (l2 : List UInt8) (hT : Tabs w) (hok : v.ok) (hz : v.size ≤ 1000000000) (hs : ItemsAt w w.heap.size n (.slice a v.items.length c) v.items) (hB2 : BytesIn w 0 w.heap.size (.slice a2 l2.length cp2) l2) (hl2 : l2.length ≤ 1048576) (hr : rightV v = true) :
    Calls Tryz.prog 4 #[.agg (vcells v (.slice a v.items.length c)), .slice a2 l2.length cp2] w fun e w' => e = .returned (.bool true) ∧ Below w.heap.size w w' := by
  have HT := hide (fun (U : World) (b : Below w.heap.size w U) => hT.below b)
  have HB2 := hide (fun (U : World) (b : Below w.heap.size w U) => hB2.belowB b)
  have BB := hide (alloc_v (Below.refl w.heap.size w) (.cells (vcells v (.slice a v.items.length c)) 26))
  have KV := hide (Kv.new w v a c n hs)
  obtain ⟨s0, s1, s2, s3, s4⟩ := KV.out.cells
  have HX := hide (And.intro hr (And.intro hok hz))
  obtain ⟨z1, z2, z3⟩ := (rightV_is v).1 hr
  have hef := enc_fits hs hok hr
  have hpf := pr_fits hs hok hr
  have hod := okD_at n 16 v _ hok hs
  have hdec : decM (encV v ++ l2) 16 0 0 = some (v, (encV v).length, v.size) := by
    have := dec_enc (encV v ++ l2) 16 v 0 0 l2 z3 z2 hod (by simp) (by omega)
    simpa using this
  have HEY := hide (fun (U : World) (sv : Value) (ht : Tabs U) (hi : ItemsAt U U.heap.size n sv v.items) => enc_yes hr U n sv ht hok hz hi)
  have HPY := hide (fun (U : World) (sv : Value) (ht : Tabs U) (hi : ItemsAt U U.heap.size n sv v.items) => pr_yes hr U n sv ht hok hz hi)
  have HPA := hide (parse_kok hpf (parM_back v hr hod))
  generalize encV v = E at *
  generalize str (prV v) = sp at *
  obtain ⟨L, hL⟩ : ∃ L, E ++ l2 = L := ⟨_, rfl⟩
  have hLl : L.length ≤ 1000000000000 := by rw [← hL, List.length_append]; omega
  rw [hL] at hdec
  have HDC := hide (fun (U : World) (sv : Value) (ht : Tabs U) (hb : BytesIn U 0 U.heap.size sv L) => decode_ok 16 U sv L v E.length v.size ht hb hLl hdec hr)
  have H2 := hide (fun (U : World) (sl1 : Value) (h1 : BytesIn U 0 U.heap.size sl1 E) (h2 : BytesIn U 0 U.heap.size (.slice a2 l2.length cp2) l2) => two_rows U sl1 _ E l2 h1 h2 (by omega) 22 22)
  rw [hL] at H2
  have heq := fault_eq
  clear hT hs hB2 hr hok hz z1 z2 z3 hod hdec hpf hef hL hLl
  go_enter Tryz.func4, Tryz.ntmps4
  go_upto_region 5 with (first
    | (go_at_call 11; refine (HEY.out _ _ (HT.out _ BB.out) KV.out.2).mono ?_; clear s0 s1 s2 s3 s4; rintro e w2 ⟨ba, bc, rfl, y2, b2⟩; have BE := hide y2; have KN := hide (KV.out.below b2); have BN := hide (trans_v BB.out b2); clear BB KV b2 y2; have BB := BN; have KV := KN; clear BN KN; obtain ⟨s0, s1, s2, s3, s4⟩ := KV.out.cells)
    | (go_at_call 12; refine (HPY.out _ _ (HT.out _ BB.out) KV.out.2).mono ?_; clear s0 s1 s2 s3 s4; rintro e w3 ⟨rfl, b3⟩; have BEN := hide (BE.out.belowB b3); have KN := hide (KV.out.below b3); have BN := hide (trans_v BB.out b3); clear BB KV BE b3; have BB := BN; have KV := KN; have BE := BEN; clear BN KN BEN; obtain ⟨s0, s1, s2, s3, s4⟩ := KV.out.cells)
    | (go_at_call 13; refine (check_ok HX.out.1 _ n _ (HT.out _ BB.out) HX.out.2.1.1 KV.out.2).mono ?_; clear s0 s1 s2 s3 s4; rintro e w4 ⟨rfl, b4⟩; have BEN := hide (BE.out.belowB b4); have KN := hide (KV.out.below b4); have BN := hide (trans_v BB.out b4); clear BB KV BE b4; have BB := BN; have KV := KN; have BE := BEN; clear BN KN BEN)
    | (go_at_call 8; refine (num4_k _ _).mono ?_; rintro e wq ⟨rfl, rfl⟩))
  obtain ⟨v5, w5, v6, w6, hr5, hr6, y6, b6⟩ := H2.out w4 _ BE.out (HB2.out _ BB.out)
  obtain ⟨a6, c6, rfl, _⟩ := id y6
  have HR5 := hide hr5
  have HR6 := hide hr6
  have Y6 := hide y6
  have KN := hide (KV.out.below b6)
  have BN := hide (trans_v BB.out b6)
  clear hr5 hr6 y6 b6 BB KV BE H2
  have BB := BN
  have KV := KN
  clear BN KN
  go_upto_region 7 with (first
    | (at_builtin; refine Lib.wpList_append_run _ rfl (.const (.slice none 0 0)) (.tmp 43) 22 22 rfl _ _ rfl rfl _ _ HR5.out ?_; clear HR5)
    | (at_builtin; refine Lib.wpList_append_run _ rfl (.tmp 44) (.tmp 45) 22 22 rfl _ _ rfl rfl _ _ HR6.out ?_; clear HR6))
  go_wp2_with (go_at_call 6; refine (HDC.out _ _ (HT.out _ BB.out) Y6.out).mono ?_; clear HDC Y6; rintro e w7 ⟨s7, rfl, i7, b7⟩; obtain ⟨xa, xc, rfl, _⟩ := i7.len; have b7' := alloc_v b7 (.cells (vcells v (.slice xa v.items.length xc)) 26); have KW := hide (Kv.new w7 v xa xc 16 (i7.at (fun b h => h.2))); have KN := hide (KV.out.below b7'); have BN := hide (trans_v BB.out b7'); clear BB KV b7 b7' i7; have BB := BN; have KV := KN; clear BN KN)
  generalize w7.heap.size = b7 at *
  go_wp2_with (go_at_call 14; refine (HPA.out _ (HT.out _ BB.out)).mono ?_; clear HPA; rintro e w8 ⟨s8, rfl, i8, b8⟩; obtain ⟨pa, pc, rfl, _⟩ := i8.len; have b8' := alloc_v (alloc_v b8 (.cells (vcells v (.slice pa v.items.length pc)) 26)) (.cells fz 44); have KP := hide ((Kv.new w8 v pa pc 16 (i8.at (fun b h => h.2))).below (alloc_v (Below.refl _ _) (.cells fz 44))); have FB := hide (FaultIs.new w8 (.cells (vcells v (.slice pa v.items.length pc)) 26) fz); have KN := hide (KV.out.below b8'); have KWN := hide (KW.out.below b8'); have BN := hide (trans_v BB.out b8'); clear BB KV KW b8 b8' i8; have BB := BN; have KV := KN; have KW := KWN; clear BN KN KWN; obtain ⟨s0, s1, s2, s3, s4⟩ := KV.out.cells; obtain ⟨x0, x1, x2, x3, x4⟩ := KW.out.cells)
  generalize w8.heap.size = b8 at *
  go_wp2_with (first
    | (go_at_call 8; refine (num4_k _ _).mono ?_; rintro e wq ⟨rfl, rfl⟩)
    | (go_at_call 9; refine (alike_same v _ 16 n _ _ KW.out.2 KV.out.2).mono ?_; clear s0 s1 s2 s3 s4 x0 x1 x2 x3 x4; rintro e w10 ⟨rfl, b10⟩; have KN := hide (KV.out.below b10); have KPN := hide (KP.out.below b10); have FBN := hide (FB.out.below b10); have BN := hide (trans_v BB.out b10); clear BB KV KW KP FB b10; have BB := BN; have KV := KN; have KP := KPN; have FB := FBN; clear BN KN KPN FBN; obtain ⟨s0, s1, s2, s3, s4⟩ := KV.out.cells; obtain ⟨x0, x1, x2, x3, x4⟩ := KP.out.cells; obtain ⟨f0, f1, f2, f3⟩ := FB.out.cells))
  go_wp2_with (first
    | (go_at_call 9; refine (alike_same v _ 16 n _ _ KP.out.2 KV.out.2).mono ?_; clear s0 s1 s2 s3 s4 x0 x1 x2 x3 x4 f0 f1 f2 f3; rintro e w11 ⟨rfl, b11⟩; have BN := hide (trans_v BB.out b11); clear BB KV KP FB b11; have BB := BN; clear BN)
    | (go_at_call 10; refine (alive4_k _ (HT.out _ BB.out)).mono ?_; rintro e w12 ⟨rfl, b12⟩; have BN := hide (trans_v BB.out b12); clear BB b12; have BB := BN; clear BN))
  go_ret
  exact ⟨rfl, BB.out⟩
theorem valueBack_walk (v : Vl) (w : World) (n : Nat) (sl sl2 : Value) (l2 : List UInt8) (hT : Tabs w) (hok : v.ok) (hz : v.size ≤ 1000000000) (hs : ItemsAt w w.heap.size n sl v.items) (hB2 : BytesIn w 0 w.heap.size sl2 l2) (hl2 : l2.length ≤ 1048576) :
    Calls Tryz.prog 4 #[.agg (vcells v sl), sl2] w fun e w' => e = .returned (.bool true) ∧ Below w.heap.size w w' := by
  obtain ⟨a, c, rfl, _⟩ := id hs.len
  obtain ⟨a2, cp2, rfl, _⟩ := id hB2
  cases hr : rightV v with
  | false => exact back_no v w n a c a2 cp2 l2 hT hok hz hs hB2 hr
  | true => exact back_yes v w n a c a2 cp2 l2 hT hok hz hs hB2 hl2 hr
end Go.Proofs.YtngnlofjjlkcmaaGreatDoor

/- A row of bytes that came in, with its bulk. -/
namespace Go.Proofs.YtngnlofjjlkcmaaGreatDoor
open Go.ChangeShapes Go.WideShapes Go.ChangeAt Go.RowKit

theorem bulk_oneB {H : Type} (d : DataW H) : 1 ≤ Rows.uptoBulk d := by
  cases d with
  | lit l => cases l <;> simp [Rows.uptoBulk]
  | nil => simp [Rows.uptoBulk]
  | ptr d => simp [Rows.uptoBulk]
  | slice elems spare => simp [Rows.uptoBulk]
  | agg parts => simp [Rows.uptoBulk]
  | iface t d => simp [Rows.uptoBulk]
  | map entries => simp [Rows.uptoBulk]
  | held h => simp [Rows.uptoBulk]
theorem bulk_lengthB {H : Type} (l : List (DataW H)) : l.length ≤ Rows.uptoBulkAll l := by
  induction l with
  | nil => simp [Rows.uptoBulkAll]
  | cons x r ih => have := bulk_oneB x; simp only [Rows.uptoBulkAll, List.length_cons]; omega
theorem bytes_u8B : Tryz.prog.bytesOf 5 = 1 := by kernel_rfl

theorem bytes_of_rowB {W : World} {x : Addr} {len cap : Nat} {zs : List Int} (hl : len ≤ cap) (hm : cap ≤ maxLen) (hz : zs.length = cap)
    (hcell : ∀ i, i < zs.length → W.cell? (x.add i) = some (.int .u8 (zs.getD i 0))) (hwz : ∀ n ∈ zs, (Lit.int .u8 n).wf = true) :
    ∃ l : List UInt8, l.length = len ∧ BytesIn W 0 W.heap.size (.slice (some x) len cap) l := by
  refine ⟨(zs.take len).map (fun n => UInt8.ofNat n.toNat), by simp; omega, some x, cap, ?_, ?_, hm, ?_⟩
  · simp; omega
  · simp; omega
  · intro j hj
    have hj' : j < len := by simp at hj; omega
    obtain ⟨b, off, rfl, hc⟩ := ints_at hcell (by omega)
    have h1 := hc j (by omega)
    refine ⟨b, off, rfl, Nat.zero_le _, World.block_lt_of_cell? W ⟨b, off + j, none⟩ h1, ?_⟩
    have hjz : j < zs.length := by omega
    have hb := range_u8 hwz j
    rw [h1, List.getElem_map, List.getElem_take]
    have e1 : zs.getD j 0 = zs[j] := by simp [List.getD, hjz]
    have e2 : zs[j]?.getD 0 = zs[j] := by simp [hjz]
    rw [e2] at hb
    rw [e1]
    have e3 : (UInt8.ofNat zs[j].toNat).toNat = zs[j].toNat := by
      rw [UInt8.toNat_ofNat']
      omega
    rw [e3]
    congr 2
    omega

theorem open_bytesB {H : Type} {enc : TypeId × Value → H} {W : World} {a : Option Addr} {len cap : Nat} {d : DataW H} {p : List MemPlace} {fuel : Nat}
    (hf : DataW.trod enc Tryz.prog W 0 (fun _ => true) true fuel 22 (Value.cells (.slice a len cap)).toList = some (d, p)) :
    ∃ l : List UInt8, l.length = len ∧ BytesIn W 0 W.heap.size (.slice a len cap) l ∧ l.length ≤ Rows.uptoBulk d := by
  rcases open_ints Tryz.underlying22 Tryz.underlying5 (by kernel_rfl) hf with ⟨hcs, hx⟩ | ⟨x, l, c, zs, hcs, _, hl, hm, hz, hx, hcell, hwz⟩
  · simp [Value.cells] at hcs
    obtain ⟨rfl, rfl, rfl⟩ := hcs
    exact ⟨[], rfl, ⟨none, 0, rfl, Nat.le_refl _, by unfold maxLen; omega, fun j hj => by simp at hj⟩, Nat.zero_le _⟩
  · simp [Value.cells] at hcs
    obtain ⟨rfl, rfl, rfl⟩ := hcs
    have hz' : zs.length = cap := by simpa using hz
    obtain ⟨l', h1, h2⟩ := bytes_of_rowB hl hm hz' hcell hwz
    refine ⟨l', h1, h2, ?_⟩
    have e : d = _ := congrArg Prod.fst hx
    rw [e, h1]
    have h3 := bulk_lengthB (lits (H := H) .u8 (zs.take len))
    simp only [Rows.uptoBulk]
    simp only [lits, List.length_map, List.length_take] at h3 ⊢
    omega
end Go.Proofs.YtngnlofjjlkcmaaGreatDoor

/- ValueBack answers true for all values and all rows of bytes, up to the bulk of its upto statement. -/
namespace Go.Proofs.YtngnlofjjlkcmaaGreatDoor.valueBack
open Go.ChangeShapes Go.WideShapes Go.ChangeAt Go.RowKit
open Go.ChangeMaps (open_string)

set_option maxRecDepth 100000 in
theorem contract (H : Type) (enc : TypeId × Value → H) (W : World) (base : Nat) (args : Array Value) (ds gs : List (DataW H)) (before : List MemPlace)
    (hval : ∀ (j : Nat) t v, Tryz.f4.params[j]? = some t → args[j]? = some v → Value.okWide Tryz.prog W .any base t v)
    (hW : DataW.Whole enc Tryz.prog Tryz.f4.params.toList Rows.valueBackSpec.vars false W args.toList ds gs before) (hL : laidMetH Tryz.prog laidL W) (hk : Rows.uptoBulkAll (ds ++ gs) ≤ 1048576) :
    Calls Tryz.prog 4 args W fun e W' => ∃ v, e = .returned v ∧ Rows.valueBackSpec.post enc Tryz.prog Tryz.f4 false true false false W args v W' := by
  have hW' := hW
  obtain ⟨p, q, hA0, hV, rfl, hfz, hnd⟩ := hW
  have hA : DataW.TrodAll enc Tryz.prog W 0 (fun _ => true) true Tryz.f4.params.toList args.toList ds p := hA0
  rw [Tryz.params4] at hA hval
  obtain ⟨v0, vs0, d0, ds0, p0, q0, hargs, rfl, rfl, h0, r0⟩ := trodAll_cons hA
  obtain ⟨v1, vs1, d1, ds1, p1, q1, rfl, rfl, rfl, h1, r1⟩ := trodAll_cons r0
  obtain ⟨rfl, rfl, rfl⟩ := trodAll_nil r1
  obtain rfl : args = #[v0, v1] := by cases args; simp_all
  obtain ⟨rfl, rfl⟩ := trodVars_none hV
  simp only [List.append_nil, Rows.uptoBulkAll] at hk
  obtain ⟨cs0, rfl, _⟩ := okWide_struct Tryz.underlying26 (hval 0 26 v0 rfl rfl)
  have k0 := h0
  have lt0 : ∀ x ∈ p0, x.block < W.heap.size := by obtain ⟨m, hm⟩ := k0; exact DataW.trod_lt m _ _ _ hm
  obtain ⟨fuel0, hf0⟩ := h0
  obtain ⟨x0, sl0, ecs0, hI0, hs0, hok0⟩ := open_val fuel0 (cs := cs0.toList) hf0 (by omega)
  obtain rfl : cs0 = vcells x0 sl0 := by cases cs0; simpa using ecs0
  obtain ⟨a1, len1, cap1, rfl⟩ := okWide_slice Tryz.underlying22 (hval 1 22 v1 rfl rfl)
  have k1 := h1
  have lt1 : ∀ x ∈ p1, x.block < W.heap.size := by obtain ⟨m, hm⟩ := k1; exact DataW.trod_lt m _ _ _ hm
  obtain ⟨fuel1, hf1⟩ := h1
  obtain ⟨l1, hl1, hb1, hbk1⟩ := open_bytesB hf1
  subst hl1
  clear hA0
  simp only [List.append_nil] at hW'
  refine (valueBack_walk x0 W _ _ _ l1 (tabs_of_laid hL) hok0 (by omega) hI0 hb1 (by omega)).mono fun e W' ⟨he, bel⟩ => ?_
  subst he
  exact ⟨_, rfl, _, _, _, [], _, [], hW', trodAll_mk1 (shut_bool Tryz.underlying4 _), trodAll_cons_mk (Below.trod laidOut (by kernel_rfl) (of_decide_eq_true (by kernel_rfl)) k0 bel lt0) (trodAll_cons_mk (Below.trod laidOut (by kernel_rfl) (of_decide_eq_true (by kernel_rfl)) k1 bel lt1) trodAll_mk0), rfl, bel.frame _, fun h => by cases h⟩

theorem laid_met (os : Os) : laidMet Tryz.prog Rows.valueBackUptoRow.laid ((laidWorld os).forCall (fun _ _ => 0) ⟨#[], #[.agg #[.int .i64 0, .int .i64 0, .int .i64 0, .string ⟨#[]⟩, .slice none 0 0], .slice none 0 0], []⟩).memory :=
  laidMet_of_run' 8 (by kernel_rfl) (by kernel_rfl)
theorem reads (os : Os) {H : Type} (enc : TypeId × Value → H) : ∃ places, DataW.whole enc Tryz.prog ((laidWorld os).forCall (fun _ _ => 0) ⟨#[], #[.agg #[.int .i64 0, .int .i64 0, .int .i64 0, .string ⟨#[]⟩, .slice none 0 0], .slice none 0 0], []⟩).memory Tryz.f4.params.toList Rows.valueBackSpec.vars false #[Value.agg #[.int .i64 0, .int .i64 0, .int .i64 0, .string ⟨#[]⟩, .slice none 0 0], Value.slice none 0 0].toList 8 = some ([.agg [.lit (.int .i64 0), .lit (.int .i64 0), .lit (.int .i64 0), .lit (.string []), .nil], .nil], [], places) :=
  ⟨[], by kernel_rfl⟩

set_option maxRecDepth 100000 in
theorem liftedUpto (os : Os) (started : os.Started) (H : Type) (enc : TypeId × Value → H) (F : Stop.Interp) :
    ReturnsInHanded {} Tryz.checked os 4 .any ((Rows.OpenSpec.upto Rows.valueBackSpec).preRow enc Tryz.prog Tryz.f4 Rows.valueBackUptoRow.domain false Rows.valueBackUptoRow.laid) (((Rows.OpenSpec.upto Rows.valueBackSpec).at F).post enc Tryz.prog Tryz.f4 false true false false) := by
  obtain ⟨places, hx⟩ := reads os enc
  refine returnsInHanded_of_row (C := Tryz.checked) (s := Rows.OpenSpec.upto Rows.valueBackSpec) own started (by kernel_rfl) Tryz.func4
    (witness_row_at (enc := enc) (C := Tryz.checked) false (laidWorld os) #[.agg #[.int .i64 0, .int .i64 0, .int .i64 0, .string ⟨#[]⟩, .slice none 0 0], .slice none 0 0] rfl (by kernel_rfl) (by kernel_rfl) (by kernel_rfl)
      (OpenSpec.preRow_of_cond 8 hx (by kernel_rfl) (fun k hk => by cases hk; kernel_rfl) (by kernel_rfl) (laid_met os))) ?_
  intro W base args ds gs before hval hW _ hcond _ hL _ _
  exact contract H enc W base args ds gs before hval hW hL (of_decide_eq_true (hcond _ rfl))

theorem saidUpto : Rows.ValueBackUptoSaid :=
  OpenClaim.holds_of_cond 4 Tryz.f4 rfl rfl rfl rfl rfl rfl rfl ⟨rfl, rfl, rfl, rfl, rfl⟩ rfl rfl rfl rfl rfl (by kernel_rfl) Tryz.func4 (by kernel_rfl)
    (of_decide_eq_true (by kernel_rfl)) (by unfold Func.isWrapper; first | (rw [if_pos (by decide +kernel)]; kernel_rfl) | (rw [if_neg (by decide +kernel)]; exact ⟨rfl, rfl⟩))
    (fun os started H enc _ F => by rw [OpenClaim.pre_eq_preRow]; exact liftedUpto os started H enc F)

theorem plain (f : FuncId) (fn : Func) (hf : Tryz.pinned.checked.prog.funcNamed Rows.valueBackRow.func = some f) (hfn : Tryz.pinned.checked.prog.funcs[f]? = some fn) :
    true = Tryz.pinned.checked.prog.looks [] ∧ ∀ (j : Nat) t, fn.params[j]? = some t → Tryz.pinned.checked.prog.wantsStandIn t = false := by
  obtain rfl : f = 4 := Option.some.inj ((show Tryz.prog.funcNamed Rows.valueBackRow.func = some 4 by kernel_rfl).symm.trans hf) |>.symm
  obtain rfl : fn = Tryz.f4 := (Option.some.inj (Tryz.func4.symm.trans hfn)).symm
  refine ⟨by kernel_rfl, fun j t ht => ?_⟩
  rw [Tryz.params4] at ht
  have hm : t = 26 ∨ t = 22 := by simpa using Array.mem_of_getElem? ht
  rcases hm with rfl | rfl
  · exact (show Tryz.prog.wantsStandIn 26 = false by kernel_rfl)
  · exact (show Tryz.prog.wantsStandIn 22 = false by kernel_rfl)

theorem cardUpto : Rows.ValueBackUptoCardSaid :=
  Claim7.holds_tied_plain_at .later [] _ _ _ _ saidUpto (fun _ h => by cases h) (by kernel_rfl) (fun _ h => by cases h) valueBackUpto_row_tie rfl ⟨rfl, rfl⟩ (by kernel_rfl) rfl plain (by kernel_rfl)
end Go.Proofs.YtngnlofjjlkcmaaGreatDoor.valueBack
namespace Go.Proofs.YtngnlofjjlkcmaaGreatDoor
theorem valueBack_upto : Rows.ValueBackUptoCardSaid := valueBack.cardUpto
#print axioms valueBack_upto
end Go.Proofs.YtngnlofjjlkcmaaGreatDoor
