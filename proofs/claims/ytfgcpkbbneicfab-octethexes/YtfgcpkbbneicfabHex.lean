/- Digits: what Hex and the document's Hex write. -/
import Derived.Test.YtfgcpkbbneicfabSame
import Derived.Deep.RegionHeld3
import Derived.Deep.DeepAppendRoom
import Derived.Deep.QuietTactic
import Derived.BigQuiet
namespace Go.Proofs.Ytfgcpkbbneicfab
open Go.RowKit

theorem cellsOf_cat (l m : List UInt8) : cellsOf (l ++ m) = cellsOf l ++ cellsOf m := by simp [cellsOf]

/-- The sixteen digits. -/
def digs : List UInt8 := [48, 49, 50, 51, 52, 53, 54, 55, 56, 57, 97, 98, 99, 100, 101, 102]
def hexd (n : Nat) : UInt8 := digs.getD n 0
def hex2 (c : UInt8) : List UInt8 := [hexd (c.toNat / 16), hexd (c.toNat % 16)]
def hexL (l : List UInt8) : List UInt8 := l.flatMap hex2
theorem hexL_len (l : List UInt8) : (hexL l).length = 2 * l.length := by
  unfold hexL
  induction l with
  | nil => rfl
  | cons c r ih => rw [List.flatMap_cons, List.length_append, ih, List.length_cons]; simp [hex2]; omega
theorem hexL_take (l : List UInt8) (k : Nat) (h : k < l.length) : hexL (l.take (k + 1)) = hexL (l.take k) ++ hex2 l[k] := by
  unfold hexL
  rw [List.take_succ_eq_append_getElem h, List.flatMap_append]
  simp

theorem step_spare {P : Program} (w : World) {ops : Array Oper} {o : Oper} {a : Act} {K : Act → World → Prop} {Q : Exit → Act → World → Prop} {E : Prop} (hgd : o.guard = none) (s x : Operand) (t : TypeId)
    (ho : o.op = .call { callee := .builtin .append, args := #[s, x], argTypes := #[t, t] })
    (base : Nat) (e : TypeId) (i : TypeInfo) (size : Nat) (ht : P.underlying t = some (.slice e)) (hi : P.info? e = some i) (hsize : i.size = size)
    (g n cap : Nat) (xs : List Value) (hs : a.eval s = .slice (some ⟨g, 0, none⟩) n cap) (hown : w.ownsRow base e size (.slice (some ⟨g, 0, none⟩) n cap) n xs)
    (ad : Addr) (m c : Nat) (news : List Value) (hx : a.eval x = .slice (some ad) m c) (hl : news.length = m * size) (hnews : ∀ j u, news[j]? = some u → w.cell? (ad.add j) = some u) (h1 : ∀ u ∈ news, u.oneCell' = true)
    (hroom : n + m ≤ cap)
    (h : ∀ w', w'.ownsRow base e size (.slice (some ⟨g, 0, none⟩) (n + m) cap) (n + m) (xs ++ news) → w.grownBy w' (some g) → K (a.put o.dst (.slice (some ⟨g, 0, none⟩) (n + m) cap)) w') :
    if Region.wanted o (yielded ops a.tmps) = true then Oper.wp P o a w K Q else E := by
  have hw : Region.wanted o (yielded ops a.tmps) = true := by simp [Region.wanted, hgd]
  rw [if_pos hw]
  exact wp_append_own_spare w s x t ho base e i size ht hi hsize g n cap xs hs hown ad m c news hx hl hnews h1 hroom h

theorem idx_dig (n : Nat) (hn : n < 16) (w : World) : (Instr.index 9 (.string ⟨#[48, 49, 50, 51, 52, 53, 54, 55, 56, 57, 97, 98, 99, 100, 101, 102]⟩) (.int .u8 (n : Int))).run Try.prog w = .ok (.int .u8 ((hexd n).toNat : Int)) w := by
  have h1 : (n : Int) < 16 := by omega
  simp [go_sem, h1]
  have h : n = 0 ∨ n = 1 ∨ n = 2 ∨ n = 3 ∨ n = 4 ∨ n = 5 ∨ n = 6 ∨ n = 7 ∨ n = 8 ∨ n = 9 ∨ n = 10 ∨ n = 11 ∨ n = 12 ∨ n = 13 ∨ n = 14 ∨ n = 15 := by omega
  rcases h with rfl | rfl | rfl | rfl | rfl | rfl | rfl | rfl | rfl | rfl | rfl | rfl | rfl | rfl | rfl | rfl
  all_goals rfl

theorem own_drew {w : World} {base n : Nat} {e : TypeId} {v : Value} {xs : List Value} (h : w.ownsRow base e 1 v n xs) : w.drew.ownsRow base e 1 v n xs := h

theorem two_new (w : World) (c d : UInt8) : ∀ j u, (cellsOf [c, d])[j]? = some u → (w.alloc (.cells #[.int .u8 (c.toNat : Int), .int .u8 (d.toNat : Int)] 5)).cell? ((⟨w.heap.size, 0, none⟩ : Addr).add j) = some u := by
  intro j u hu
  rw [Addr.add_lit, Nat.zero_add, World.cell?_alloc_new]
  match j, hu with
  | 0, hu => exact hu
  | 1, hu => exact hu
  | j + 2, hu => simp [cellsOf] at hu

theorem and15 (x : UInt8) : bits .and .u8 (x.toNat : Int) 15 = ((x.toNat % 16 : Nat) : Int) := by
  have h := u8_and_nat x.toNat 15 x.toNat_lt (by decide)
  rw [nat_mask4] at h
  exact h

set_option maxRecDepth 100000 in
set_option maxHeartbeats 1000000 in
theorem hex_any (w : World) (a : Option Addr) (c : Nat) (l : List UInt8) (hb : Bytes w (.slice a l.length c) l) (hl : l.length ≤ 140737488351232) :
    Calls Try.prog 5 #[.slice a l.length c] w fun e w' => e = .returned (.string (bytesOf (hexL l))) ∧ Below w.heap.size w w' := by
  obtain ⟨i0, hi, hz0, hz1, hz2⟩ := info_parts info_u8
  have hmk := run_make (P := Try.prog) w 22 5 i0 (.int .u8 0) Try.underlying22 hi hz0 .i64 .i64 0 (2 * (l.length : Int)) (by omega) (by omega) (by rw [hz2]; omega) (by omega)
  have HE := hide hb.elim
  have HB := hide hb
  clear hb
  go_enter Try.func5, Try.ntmps5
  go_wp2
  go_loopw [3, 5, 12] (fun v _ i wr => ∃ k : Nat, k ≤ l.length ∧ i = .int .i64 k ∧ v = .slice (some ⟨w.heap.size, 0, none⟩) (2 * k) (2 * l.length) ∧ wr.ownsRow w.heap.size 5 1 (.slice (some ⟨w.heap.size, 0, none⟩) (2 * k) (2 * l.length)) (2 * k) (cellsOf (hexL (l.take k))) ∧ Below w.heap.size w wr) (fun _ _ i _ => l.length - (intOf i).toNat)
  case atStart =>
    refine ⟨0, Nat.zero_le _, rfl, by first | rfl | (simp; omega), ?_, (Below.refl _ _).alloc (Nat.le_refl _) _⟩
    have := World.ownsRow_made (base := w.heap.size) (e := 5) (size := 1) w (madeCells #[.int .u8 0] (2 * l.length)) (2 * l.length) (Nat.le_refl _) (by unfold maxLen; omega) (by simp [madeCells])
    exact this
  case round =>
    obtain ⟨k, hk, rfl, rfl, hown, hbel⟩ := hrel
    by_cases hlt : k < l.length
    · have hcell : ∃ b off, a = some ⟨b, off, none⟩ ∧ w.cell? ⟨b, off + k, none⟩ = some (.int .u8 (l[k].toNat : Int)) := by
        rcases HE.out with ⟨e, _⟩ | ⟨_, b, off, c', e, h7⟩
        · rw [e] at hlt; simp at hlt
        · simp only [Value.slice.injEq] at e
          exact ⟨b, off, e.1, h7 k hlt⟩
      obtain ⟨b, off, rfl, hcell⟩ := hcell
      have hcell' := cell_later hbel hcell
      have HS := hide (hexL_take l k hlt)
      clear HE hmk hcell
      generalize l[k] = x at *
      have hx : x.toNat < 256 := x.toNat_lt
      obtain ⟨y1, hy1⟩ : ∃ y, x.toNat / 16 = y := ⟨_, rfl⟩
      obtain ⟨y2, hy2⟩ : ∃ y, x.toNat % 16 = y := ⟨_, rfl⟩
      have hand := and15 x
      rw [hy2] at hand
      have hdiv : ((x.toNat : Int) / 16) = (y1 : Int) := by omega
      have hi1 := idx_dig y1 (by omega)
      have hi2 := idx_dig y2 (by omega)
      have HX : Hid (hex2 x = [hexd y1, hexd y2]) := by show _ = _; unfold hex2; rw [hy1, hy2]
      rw [HX.out] at HS
      clear hy1 hy2 HX
      generalize hexd y1 = c1 at *
      generalize hexd y2 = c2 at *
      have HOWN := hide hown
      have HBEL := hide hbel
      clear hown hbel
      go_wp2
      go_region_held3 (fun _ => True) (trivial) ((refine step_spare _ (by rfl) (.tmp 16) (.tmp 23) 22 (by rfl) w.heap.size 5 i0 1 Try.underlying22 hi hz1 w.heap.size (2 * k) (2 * l.length) (cellsOf (hexL (l.take k))) (by rfl) (by first | exact HOWN.out.alloc _ | exact (own_drew HOWN.out).alloc _) ⟨wr.heap.size, 0, none⟩ 2 2 (cellsOf [c1, c2]) (by rfl) rfl (two_new _ c1 c2) (cellsOf_one _) (by omega) ?_; intro w1 A1 A2))
      all_goals
        have R : Hid (w1.ownsRow w.heap.size 5 1 (.slice (some ⟨w.heap.size, 0, none⟩) (2 * (k + 1)) (2 * l.length)) (2 * (k + 1)) (cellsOf (hexL (l.take (k + 1)))) ∧ Below w.heap.size w w1) := by
          refine ⟨?_, ?_⟩
          · rw [HS.out, cellsOf_cat]
            exact A1
          · exact below_grown (HBEL.out.drew.alloc HBEL.out.size _) A2 (Nat.le_refl _) (by have := HBEL.out.size; simp; omega)
        clear A1 A2
        go_wp2
        go_roundw
        case rel => exact ⟨k + 1, by omega, by go_num, rfl, R.out.1, R.out.2⟩
        case measure => simp [intOf]; omega
    · have e : l.take k = l := List.take_of_length_le (by omega)
      rw [e] at hown
      have hcv := conv_bytes (ownsRow_bytes hown).2.plain
      have HBEL := hide hbel
      clear hown hbel HE hmk e
      go_wp2
      go_ret
      exact ⟨rfl, HBEL.out⟩
end Go.Proofs.Ytfgcpkbbneicfab
