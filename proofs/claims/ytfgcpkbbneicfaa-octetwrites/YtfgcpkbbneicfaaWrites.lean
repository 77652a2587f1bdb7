/- What OctetWrites does: it answers true, and turns nothing that was there. -/
import Derived.Test.YtfgcpkbbneicfaaOwn
import Derived.Test.YtfgcpkbbneicfaaSame
import Derived.Deep.CutRange
namespace Go.Proofs.Ytfgcpkbbneicfaa
open Go.RowKit
open Go.Lib (uvarint uvarint_small uvarint_big uvarint_length64 uvarint_pos)

/-- A row of bytes in a block of its own. -/
def Row (w : World) (base g cap : Nat) (l : List UInt8) : Prop := w.ownsRow base 5 1 (.slice (some ⟨g, 0, none⟩) l.length cap) l.length (cellsOf l)

theorem row_of {w : World} {base n : Nat} {v : Value} {l : List UInt8} (h : w.ownsRow base 5 1 v n (cellsOf l)) (hp : 0 < l.length) :
    ∃ g cap, v = .slice (some ⟨g, 0, none⟩) l.length cap ∧ Row w base g cap l := by
  have hn : n = l.length := by have := h.1; rw [cellsOf_length] at this; omega
  subst hn
  rcases id h.2 with ⟨rfl, h0⟩ | ⟨g, cap, cur, rfl, _⟩
  · omega
  · exact ⟨g, cap, rfl, h⟩

theorem Row.bytes {w : World} {base g cap : Nat} {l : List UInt8} (h : Row w base g cap l) : Bytes w (.slice (some ⟨g, 0, none⟩) l.length cap) l := (ownsRow_bytes h).2.plain
theorem Row.lt {w : World} {base g cap : Nat} {l : List UInt8} (h : Row w base g cap l) : base ≤ g ∧ g < w.heap.size := World.ownsRow.lt h g rfl
theorem Row.cap_le {w : World} {base g cap : Nat} {l : List UInt8} (h : Row w base g cap l) : l.length ≤ cap ∧ cap ≤ maxLen := by
  rcases h.2 with ⟨h, _⟩ | ⟨g', cap', cur, hv, hb, hh, hnc, hcm, _⟩
  · cases h
  · simp only [Value.slice.injEq, Option.some.injEq, Addr.mk.injEq, and_true, true_and] at hv
    obtain ⟨rfl, rfl⟩ := hv
    exact ⟨hnc, hcm⟩
theorem Row.later {w w' : World} {base base' g cap : Nat} {l : List UInt8} (h : Row w base g cap l) (hb : Below w.heap.size w w') (hbase : base' ≤ base) : Row w' base' g cap l := by
  have hlt := h.lt
  refine ⟨h.1, ?_⟩
  rcases h.2 with ⟨h, _⟩ | ⟨g', cap', cur, hv, hbb, hh, rest⟩
  · cases h
  · have hv' := hv
    simp only [Value.slice.injEq, Option.some.injEq, Addr.mk.injEq, and_true, true_and] at hv'
    obtain ⟨rfl, rfl⟩ := hv'
    exact .inr ⟨g, cap, cur, rfl, by omega, by rw [hb.block g hlt.2]; exact hh, rest⟩

theorem uvarint_row (u : Nat) (hu : u < 18446744073709551616) (w : World) :
    Calls Try.prog 9 #[.int .u64 u] w fun e w' => ∃ g cap, e = .returned (.slice (some ⟨g, 0, none⟩) (uvarint u).length cap) ∧ Row w' w.heap.size g cap (uvarint u) ∧ Below w.heap.size w w' := by
  refine (uvarint_any u hu w).mono ?_
  rintro e w' ⟨v, rfl, h1, h2⟩
  obtain ⟨g, cap, rfl, h⟩ := row_of h1 (uvarint_pos u)
  exact ⟨g, cap, rfl, h, h2⟩
theorem varint_row (v : Int) (h0 : -9223372036854775808 ≤ v) (h1 : v ≤ 9223372036854775807) (w : World) :
    Calls Try.prog 10 #[.int .i64 v] w fun e w' => ∃ g cap, e = .returned (.slice (some ⟨g, 0, none⟩) (uvarint (zz v)).length cap) ∧ Row w' w.heap.size g cap (uvarint (zz v)) ∧ Below w.heap.size w w' := by
  refine (varint_any v h0 h1 w).mono ?_
  rintro e w' ⟨v, rfl, h1, h2⟩
  obtain ⟨g, cap, rfl, h⟩ := row_of h1 (uvarint_pos _)
  exact ⟨g, cap, rfl, h, h2⟩
theorem txt_pos (s : ByteArray) : 0 < (txt s).length := by
  unfold txt
  rw [List.length_append]
  have := uvarint_pos s.size
  omega
theorem text_row (s : ByteArray) (hs : s.size ≤ 140737488351232) (w : World) :
    Calls Try.prog 11 #[.string s] w fun e w' => ∃ g cap, e = .returned (.slice (some ⟨g, 0, none⟩) (txt s).length cap) ∧ Row w' w.heap.size g cap (txt s) ∧ Below w.heap.size w w' := by
  refine (text_any s hs w).mono ?_
  rintro e w' ⟨v, rfl, h1, h2⟩
  obtain ⟨g, cap, rfl, h⟩ := row_of h1 (txt_pos s)
  exact ⟨g, cap, rfl, h, h2⟩

theorem six {P : Nat → Prop} (h0 : P 0) (h1 : P 1) (h2 : P 2) (h3 : P 3) (h4 : P 4) (h5 : P 5) : ∀ i, i < 6 → P i := fun i hi =>
  match i, hi with
  | 0, _ => h0
  | 1, _ => h1
  | 2, _ => h2
  | 3, _ => h3
  | 4, _ => h4
  | 5, _ => h5

def pick6 (a b c d e f : Nat) (i : Nat) : Nat := match i with | 0 => a | 1 => b | 2 => c | 3 => d | 4 => e | _ => f

theorem own_six {w w9 : World} {g1 g2 g3 g4 g5 g6 c1 c2 c3 c4 c5 c6 : Nat} {l1 l2 l3 l4 l5 l6 : List UInt8} {B : Nat} (hB : B ≤ g1)
    (k1 : Row w9 B g1 c1 l1) (k2 : Row w9 B g2 c2 l2) (k3 : Row w9 B g3 c3 l3) (k4 : Row w9 B g4 c4 l4) (k5 : Row w9 B g5 c5 l5) (k6 : Row w9 B g6 c6 l6)
    (o1 : g1 < g2) (o2 : g2 < g3) (o3 : g3 < g4) (o4 : g4 < g5) (o5 : g5 < g6) (hbel : Below B w w9) :
    Calls Try.prog 16 #[.slice (some ⟨w9.heap.size, 0, none⟩) 6 6] (w9.alloc (.cells #[.slice (some ⟨g1, 0, none⟩) l1.length c1, .slice (some ⟨g2, 0, none⟩) l2.length c2, .slice (some ⟨g3, 0, none⟩) l3.length c3, .slice (some ⟨g4, 0, none⟩) l4.length c4, .slice (some ⟨g5, 0, none⟩) l5.length c5, .slice (some ⟨g6, 0, none⟩) l6.length c6] 23))
      fun e w' => e = .returned (.bool true) ∧ Below B w w' := by
  have s6 := k6.lt
  have hBs : B ≤ w9.heap.size := by omega
  refine (own_any B 6 w9.heap.size (pick6 g1 g2 g3 g4 g5 g6) (pick6 l1.length l2.length l3.length l4.length l5.length l6.length) (pick6 c1 c2 c3 c4 c5 c6) _ (by omega) ?_ ?_ ?_ ?_ ?_).mono ?_
  · have one : ∀ {g c : Nat} {l : List UInt8}, Row w9 B g c l → ∃ xs : List Value, (w9.alloc (.cells #[.slice (some ⟨g1, 0, none⟩) l1.length c1, .slice (some ⟨g2, 0, none⟩) l2.length c2, .slice (some ⟨g3, 0, none⟩) l3.length c3, .slice (some ⟨g4, 0, none⟩) l4.length c4, .slice (some ⟨g5, 0, none⟩) l5.length c5, .slice (some ⟨g6, 0, none⟩) l6.length c6] 23)).ownsRow B 5 1 (.slice (some ⟨g, 0, none⟩) l.length c) l.length xs ∧
        (∀ k, k < l.length → ∃ z : Int, xs[k]? = some (.int .u8 z)) ∧ ∀ i k, k < l.length → False → xs[k]? = some (ob i) := by
      intro g c l h
      refine ⟨cellsOf l, World.ownsRow.alloc h _, fun k hk => ⟨(l[k].toNat : Int), by simp [cellsOf, hk]⟩, fun _ _ _ h => h.elim⟩
    refine ⟨six ?_ ?_ ?_ ?_ ?_ ?_, six ?_ ?_ ?_ ?_ ?_ ?_⟩
    · obtain ⟨xs, a, b, c⟩ := one k1; exact ⟨xs, a, b, fun k h d => d.elim⟩
    · obtain ⟨xs, a, b, c⟩ := one k2; exact ⟨xs, a, b, fun k h d => d.elim⟩
    · obtain ⟨xs, a, b, c⟩ := one k3; exact ⟨xs, a, b, fun k h d => d.elim⟩
    · obtain ⟨xs, a, b, c⟩ := one k4; exact ⟨xs, a, b, fun k h d => d.elim⟩
    · obtain ⟨xs, a, b, c⟩ := one k5; exact ⟨xs, a, b, fun k h d => d.elim⟩
    · obtain ⟨xs, a, b, c⟩ := one k6; exact ⟨xs, a, b, fun k h d => d.elim⟩
    all_goals (rw [World.cell?_alloc_new]; rfl)
  · intro i j hi hj
    have : ∀ i, i < 6 → i = 0 ∨ i = 1 ∨ i = 2 ∨ i = 3 ∨ i = 4 ∨ i = 5 := by omega
    rcases this i hi with rfl | rfl | rfl | rfl | rfl | rfl <;> rcases this j hj with rfl | rfl | rfl | rfl | rfl | rfl <;> (intro h; simp only [pick6] at h; omega)
  · exact six (by simp only [pick6]; omega) (by simp only [pick6]; omega) (by simp only [pick6]; omega) (by simp only [pick6]; omega) (by simp only [pick6]; omega) (by simp only [pick6]; omega)
  · exact six k1.cap_le k2.cap_le k3.cap_le k4.cap_le k5.cap_le k6.cap_le
  · exact six k1.lt.1 k2.lt.1 k3.lt.1 k4.lt.1 k5.lt.1 k6.lt.1
  · rintro e w' ⟨rfl, h⟩
    exact ⟨rfl, (hbel.alloc hBs _).trans h⟩

theorem comp {a b c : World} (h : Below a.heap.size a b) (k : Below b.heap.size b c) : Below a.heap.size a c := h.trans (k.mono h.size)

theorem own_all {w w1 w2 w3 w6 w7 w8 w9 : World} {g1 g2 g3 g4 g5 g6 c1 c2 c3 c4 c5 c6 : Nat} {l1 l2 l3 l4 l5 l6 : List UInt8}
    (K1 : Row w1 w.heap.size g1 c1 l1 ∧ Below w.heap.size w w1) (K2 : Row w2 w1.heap.size g2 c2 l2 ∧ Below w1.heap.size w1 w2) (K3 : Row w3 w2.heap.size g3 c3 l3 ∧ Below w2.heap.size w2 w3)
    (B6 : Below w3.heap.size w3 w6)
    (K7 : Row w7 w6.heap.size g4 c4 l4 ∧ Below w6.heap.size w6 w7) (K8 : Row w8 w7.heap.size g5 c5 l5 ∧ Below w7.heap.size w7 w8) (K9 : Row w9 w8.heap.size g6 c6 l6 ∧ Below w8.heap.size w8 w9) :
    Calls Try.prog 16 #[.slice (some ⟨w9.heap.size, 0, none⟩) 6 6] (w9.alloc (.cells #[.slice (some ⟨g1, 0, none⟩) l1.length c1, .slice (some ⟨g2, 0, none⟩) l2.length c2, .slice (some ⟨g3, 0, none⟩) l3.length c3, .slice (some ⟨g4, 0, none⟩) l4.length c4, .slice (some ⟨g5, 0, none⟩) l5.length c5, .slice (some ⟨g6, 0, none⟩) l6.length c6] 23))
      fun e w' => e = .returned (.bool true) ∧ Below w.heap.size w w' := by
  have x1 := K1.1.lt
  have x2 := K2.1.lt
  have x3 := K3.1.lt
  have x4 := K7.1.lt
  have x5 := K8.1.lt
  have x6 := K9.1.lt
  have y1 := K1.2.size
  have y2 := K2.2.size
  have y3 := K3.2.size
  have y4 := B6.size
  have y5 := K7.2.size
  have y6 := K8.2.size
  have b8 := K9.2
  have b7 := comp K8.2 b8
  have b6 := comp K7.2 b7
  have b3 := comp B6 b6
  have b2 := comp K3.2 b3
  have b1 := comp K2.2 b2
  have b0 := comp K1.2 b1
  exact own_six x1.1 (K1.1.later b1 (Nat.le_refl _)) (K2.1.later b2 (by omega)) (K3.1.later b3 (by omega)) (K7.1.later b7 (by omega)) (K8.1.later b8 (by omega)) (K9.1.later (Below.refl _ _) (by omega))
    (by omega) (by omega) (by omega) (by omega) (by omega) b0

set_option maxRecDepth 100000 in
set_option maxHeartbeats 2000000 in
theorem writes_any (u : Nat) (hu : u < 18446744073709551616) (v : Int) (h0 : -9223372036854775808 ≤ v) (h1 : v ≤ 9223372036854775807) (s : ByteArray) (hs : s.size ≤ 140737488351232) (w : World) :
    Calls Try.prog 3 #[.int .u64 u, .int .i64 v, .string s] w fun e w' => e = .returned (.bool true) ∧ Below w.heap.size w w' := by
  have HU := hide hu
  have H0 := hide h0
  have H1 := hide h1
  have HS := hide hs
  clear hu h0 h1 hs
  go_enter Try.func3, Try.ntmps3
  go_upto_region 4 with (first | (go_at_call 9; refine (uvarint_row _ HU.out _).mono ?_; rintro e w1 ⟨g1, c1, rfl, A1⟩; have K1 := hide A1; clear A1) | (go_at_call 10; refine (varint_row _ H0.out H1.out _).mono ?_; rintro e w2 ⟨g2, c2, rfl, A1⟩; have K2 := hide A1; clear A1) | (go_at_call 11; refine (text_row _ HS.out _).mono ?_; rintro e w3 ⟨g3, c3, rfl, A1⟩; have K3 := hide A1; clear A1))
  go_upto_region 5 with (first | (go_at_call 13; refine (refUvarint_any _ HU.out _).mono ?_; rintro e w4 ⟨x4, rfl, A1, A2⟩; have R4 := hide A1; have B4 := hide A2; clear A1 A2) | (go_at_call 14; refine (refVarint_any _ H0.out H1.out _).mono ?_; rintro e w5 ⟨x5, rfl, A1, A2⟩; have R5 := hide A1; have B5 := hide A2; clear A1 A2) | (go_at_call 15; refine (refText_any _ HS.out _).mono ?_; rintro e w6 ⟨x6, rfl, A1, A2⟩; have R6 := hide A1; have B6 := hide A2; clear A1 A2) | (go_at_call 12; refine (same_yes _ _ _ _ _ ((((K3.out.1.bytes.later B4.out).later B5.out).later B6.out)) (ownsRow_bytes R6.out).2.plain rfl).mono ?_; rintro e w' ⟨rfl, rfl⟩) | (go_at_call 12; refine (same_yes _ _ _ _ _ ((((K2.out.1.bytes.later K3.out.2).later B4.out).later B5.out)) (ownsRow_bytes R5.out).2.plain rfl).mono ?_; rintro e w' ⟨rfl, rfl⟩) | (go_at_call 12; refine (same_yes _ _ _ _ _ ((((K1.out.1.bytes.later K2.out.2).later K3.out.2).later B4.out)) (ownsRow_bytes R4.out).2.plain rfl).mono ?_; rintro e w' ⟨rfl, rfl⟩))
  have B36 := hide (comp (comp B4.out B5.out) B6.out)
  clear R4 R5 R6 B4 B5 B6
  go_wp2_with (first | (go_at_call 9; refine (uvarint_row _ HU.out _).mono ?_; rintro e w7 ⟨g4, c4, rfl, A1⟩; have K7 := hide A1; clear A1) | (go_at_call 10; refine (varint_row _ H0.out H1.out _).mono ?_; rintro e w8 ⟨g5, c5, rfl, A1⟩; have K8 := hide A1; clear A1) | (go_at_call 11; refine (text_row _ HS.out _).mono ?_; rintro e w9 ⟨g6, c6, rfl, A1⟩; have K9 := hide A1; clear A1) | (go_at_call 16; refine (own_all K1.out K2.out K3.out B36.out K7.out K8.out K9.out).mono ?_; rintro e w10 ⟨rfl, A1⟩; have T := hide A1; clear A1) | (go_at_call 17; refine (heads_any _).mono ?_; rintro e w11 ⟨rfl, A1⟩; have T2 := hide A1; clear A1))
  go_ret
  exact ⟨rfl, comp T.out T2.out⟩
end Go.Proofs.Ytfgcpkbbneicfaa
