/- The writing methods of strings.Builder: what each leaves behind. -/
import Derived.Test.YthmhcpghfbifiaaGreatDoorGE0
import Derived.WalkKit
import Derived.BigCall
import Derived.Test.YthmhcpghfbifiaaGreatDoorGText
import Derived.Laws.BitsAllLaws
import Derived.Deep.RegionHeld3
import Derived.Deep.RegionWith
import Derived.Deep.QuietTactic
import Derived.BigQuiet
namespace Go.Proofs.YthmhcpghfbifiaaGreatDoor
open Go.RowKit

theorem infoByte : (Tryz.prog.info? 5).map (fun i => (i.zero, i.size, i.bytes)) = some (some (.int .u8 0), 1, 1) := by kernel_rfl
theorem sizeBuilder : (Tryz.prog.info? 41).map (·.size) = some 2 := by kernel_rfl
theorem liesBuilder : liesAt Tryz.prog Tryz.prog.depth 41 (2 / Tryz.prog.cellsOf 41) 0 41 1 = true := by kernel_rfl

set_option maxRecDepth 100000 in
theorem copyCheck_fresh (b : Nat) (w : World) (h0 : w.cell? ⟨b, 0, none⟩ = some (.pointer none)) (hsh : w.shape? b = some (41, 2)) (hfz : w.frozen? ⟨b, 0, none⟩ = false) :
    Calls Tryz.prog 30 #[.pointer (some ⟨b, 0, none⟩)] w fun e w' => e = .returned (.tuple #[]) ∧ w.setCell ⟨b, 0, none⟩ (.pointer (some ⟨b, 0, none⟩)) = w' := by
  obtain ⟨j, hj, hjs⟩ := Option.map_eq_some_iff.1 sizeBuilder
  have h1 : (w.setCell ⟨b, 0, none⟩ (.pointer (some ⟨b, 0, none⟩))).cell? ⟨b, 0, none⟩ = some (.pointer (some ⟨b, 0, none⟩)) := World.cell?_setCell_same' _ _ _ (by rw [h0]; rfl)
  go_enter Tryz.func30, Tryz.ntmps30
  go_wp2
  rw [Lib.run_to_unsafe w ⟨b, 0, none⟩ Tryz.underlying39 Tryz.underlying107 hj (by rw [hjs]; decide) hsh (Nat.zero_lt_succ 1)]
  simp only [Result.andThen]
  rw [Oper.upon_value]
  go_wp2
  rw [run_callFunc_extern Tryz.func55 (by kernel_rfl) (by kernel_rfl) (by kernel_rfl) (e := Extern.AbiNoEscape.same) (by kernel_rfl)]
  rw [Lib.run_noEscape]
  simp only [Result.andThen]
  rw [Oper.upon_value]
  go_wp2
  rw [Lib.run_from_unsafe w ⟨b, 0, none⟩ Tryz.underlying107 Tryz.underlying39 hj hsh liesBuilder]
  simp only [Result.andThen]
  rw [Oper.upon_value]
  go_wp2
  go_end0
  exact ⟨rfl, rfl⟩

set_option maxRecDepth 100000 in
theorem copyCheck_used (b : Nat) (w : World) (h0 : w.cell? ⟨b, 0, none⟩ = some (.pointer (some ⟨b, 0, none⟩))) :
    Calls Tryz.prog 30 #[.pointer (some ⟨b, 0, none⟩)] w fun e w' => e = .returned (.tuple #[]) ∧ w = w' := by
  obtain ⟨j, hj, _⟩ := Option.map_eq_some_iff.1 sizeBuilder
  go_enter Tryz.func30, Tryz.ntmps30
  go_wp2
  rw [Lib.run_neq_ptr_same w _ Tryz.underlying39 hj]
  go_wp2
  go_end0
  exact ⟨rfl, rfl⟩

theorem copyCheck_k (B b : Nat) (bs : List Value) (w : World) (h : Lib.IsBuilderF 41 5 B b bs w) :
    Calls Tryz.prog 30 #[.pointer (some ⟨b, 0, none⟩)] w fun e w' => e = .returned (.tuple #[]) ∧ (Lib.BuilderAtF 41 5 B b (.pointer (some ⟨b, 0, none⟩)) bs w' ∧ Below B w w' ∧ Lib.OthersKept 5 (some b) w w') := by
  rcases h with h | h
  · refine (copyCheck_fresh b w h.cell0 h.shape h.frozen0).mono ?_
    rintro e w' ⟨rfl, rfl⟩
    exact ⟨rfl, h.used _, (Below.refl B w).setCell (p := ⟨b, 0, none⟩) h.1 _, (Lib.OthersKept.refl _ _ w).setCell ⟨b, 0, none⟩ rfl _⟩
  · refine (copyCheck_used b w h.cell0).mono ?_
    rintro e w' ⟨rfl, rfl⟩
    exact ⟨rfl, h, Below.refl B _, Lib.OthersKept.refl _ _ _⟩

/-- What a writing method leaves: the builder with the new bytes behind. -/
def Wrote (B b : Nat) (bs : List Value) (w w' : World) : Prop :=
  Lib.IsBuilderF 41 5 B b bs w' ∧ Below B w w' ∧ Lib.OthersKept 5 (some b) w w'

set_option maxHeartbeats 2000000 in
set_option maxRecDepth 100000 in
theorem writeString_k (B b : Nat) (bs : List Value) (s : ByteArray) (w : World) (h : Lib.IsBuilderF 41 5 B b bs w) (hlen : bs.length + s.size ≤ 140737488355328) (hBw : B ≤ w.heap.size) :
    Calls Tryz.prog 14 #[.pointer (some ⟨b, 0, none⟩), .string s] w fun e w' => e = .returned (.tuple #[.int .i64 s.size, .nilIface]) ∧ Wrote B b (bs ++ Lib.strCells s) w w' := by
  obtain ⟨i0, hi, hz0, hz1, hz2⟩ := info_parts infoByte
  go_enter Tryz.func14, Tryz.ntmps14
  go_wp2_with (go_at_call 30; refine (copyCheck_k B b bs _ h).mono ?_)
  rintro e w1 ⟨rfl, h1, hb1, hk1⟩
  obtain ⟨hB, v, hbk, hown, hne⟩ := h1
  have c0 : w1.cell? ⟨b, 0, none⟩ = some (.pointer (some ⟨b, 0, none⟩)) := by rw [Lib.cell_of_heap hbk]; rfl
  have c1 : w1.cell? ⟨b, 1, none⟩ = some v := by rw [Lib.cell_of_heap hbk]; rfl
  go_wp2_with (at_builtin; refine Lib.wpList_append_own_stringF _ rfl _ _ 23 9 rfl B 5 i0 Tryz.underlying23 Tryz.underlying9 hi hz0 hz1 hz2 _ _ _ rfl hown s rfl ?c3 ?c4 ?c5 ?_)
  case c3 => unfold maxLen; omega
  case c4 => omega
  case c5 => have := hb1.size; omega
  intro v' w2 hown' hgrow _
  have hlt : b < w1.heap.size := (Array.getElem?_eq_some_iff.1 hbk).1
  have hb2 : w2.heap[b]? = some (.cells #[.pointer (some ⟨b, 0, none⟩), v] 41 (0, 0)) := by
    rw [hgrow.block b hlt (fun e => hne e.symm)]
    exact hbk
  have d0 : w2.cell? ⟨b, 0, none⟩ = some (.pointer (some ⟨b, 0, none⟩)) := by rw [Lib.cell_of_heap hb2]; rfl
  have d1 : w2.cell? ⟨b, 1, none⟩ = some v := by rw [Lib.cell_of_heap hb2]; rfl
  have f1 : w2.frozen? ⟨b, 1, none⟩ = false := Lib.frozen_of_heap hb2 1
  obtain ⟨ao, n', cap, rfl⟩ : ∃ ao n' cap, v' = .slice ao n' cap := by
    rcases hown'.2 with ⟨hv, _⟩ | ⟨g, cap, cur, fz, hv, _⟩
    · exact ⟨_, _, _, hv⟩
    · exact ⟨_, _, _, hv⟩
  go_wp2
  go_ret2
  refine ⟨rfl, .inr ?_, ?_, (hk1.grown hgrow (Lib.ownsRowF_kind hown)).setCell ⟨b, 1, none⟩ rfl _⟩
  · exact Lib.BuilderAtF.put (T := 41) (e := 5) hB hb2 (bs' := bs ++ Lib.strCells s) (by simpa [Lib.strCells_length] using hown') (by decide)
  · exact (hb1.grown hgrow (by have := hb1.size; omega) (fun k hk => (hown.lt k hk).1)).setCell (p := ⟨b, 1, none⟩) hB _

end Go.Proofs.YthmhcpghfbifiaaGreatDoor

/- What text.Quote writes of every text. -/
namespace Go.Proofs.YthmhcpghfbifiaaGreatDoor
open Go.RowKit
attribute [local go_sem] Oper.semAt_some

/-- A builder in block b that holds these bytes. -/
def Bld (b : Nat) (l : List UInt8) (W : World) : Prop := Lib.IsBuilderF 41 5 b b (Lib.byteCells l) W
def Put (b : Nat) (l : List UInt8) (W W' : World) : Prop := Bld b l W' ∧ Below b W W' ∧ Lib.OthersKept 5 (some b) W W'
theorem Bld.lt {b : Nat} {l : List UInt8} {W : World} (h : Bld b l W) : b < W.heap.size := by
  rcases h with ⟨_, v, hb, _⟩ | ⟨_, v, hb, _⟩
  · exact (Array.getElem?_eq_some_iff.1 hb).1
  · exact (Array.getElem?_eq_some_iff.1 hb).1
theorem Bld.alloc {b : Nat} {l : List UInt8} {W : World} (h : Bld b l W) (o : Obj) : Bld b l (W.alloc o) := Lib.IsBuilderF.alloc h o
theorem Bld.iterAt {b : Nat} {l : List UInt8} {W : World} (h : Bld b l W) {k : Nat} {s : ByteArray} {p : Nat} (hk : W.heap[k]? = some (.stringIter s p)) (p' : Nat) : Bld b l (W.iterAt k s p') := Lib.IsBuilderF.iterAt h hk p'

theorem wStr (b : Nat) (l t : List UInt8) (s : ByteArray) (hs : s = str t) (w : World) (h : Bld b l w) (hl : l.length + t.length ≤ 140737488355328) :
    Calls Tryz.prog 14 #[.pointer (some ⟨b, 0, none⟩), .string s] w fun e w' => (∃ v, e = .returned v) ∧ Put b (l ++ t) w w' := by
  subst hs
  refine (writeString_k b b _ _ w h (by rw [Lib.byteCells_length, str_size]; exact hl) (Nat.le_of_lt h.lt)).mono ?_
  rintro e w' ⟨rfl, h1, h2, h3⟩
  refine ⟨⟨_, rfl⟩, ?_, h2, h3⟩
  unfold Bld
  rw [Lib.byteCells_append]
  exact h1
theorem wEnd (b : Nat) (l : List UInt8) (w : World) (h : Bld b l w) :
    Calls Tryz.prog 16 #[.pointer (some ⟨b, 0, none⟩)] w fun e w' => e = .returned (.string (str l)) ∧ Below b w w' := by
  refine (Tryz.Builder_String_any_k b b l w h (Nat.le_of_lt h.lt)).mono ?_
  rintro e w' ⟨rfl, _, h2, _⟩
  exact ⟨rfl, h2⟩

theorem bld_own {b : Nat} {l : List UInt8} {B A : Nat} {W W' : World} {row : Option Nat} (h : Bld b l W) (hg : W.grownBy W' row)
    (hr : ∀ r, row = some r → B ≤ r ∧ ((∃ o : Obj, W.heap[r]? = some o ∧ o.isCells = false) ∨ (r = A ∧ ∃ o : Obj, W.heap[r]? = some o ∧ isSpot o))) : Bld b l W' := by
  have same : ∀ k c t z, W.heap[k]? = some (Obj.cells c t z) → t ≠ 32 → W'.heap[k]? = some (Obj.cells c t z) := fun k c t z hk ht =>
    (hg.block k (Array.getElem?_eq_some_iff.1 hk).1 fun e => by
      rcases (hr k e.symm).2 with ⟨o, ho, hn⟩ | ⟨_, o, ho, c', z', e2⟩
      · rw [hk] at ho
        cases ho
        cases hn
      · rw [hk] at ho
        cases ho
        cases e2
        exact ht rfl).trans hk
  have one : ∀ p, Lib.BuilderAtF 41 5 b b p (Lib.byteCells l) W → Lib.BuilderAtF 41 5 b b p (Lib.byteCells l) W' := by
    rintro p ⟨hB, v, hb, hown, hne⟩
    refine ⟨hB, v, same _ _ _ _ hb (by decide), ?_, hne⟩
    refine ⟨hown.1, ?_⟩
    rcases hown.2 with hn | ⟨g, cap, cur, fz, hv, h1, h2, rest⟩
    · exact .inl hn
    · exact .inr ⟨g, cap, cur, fz, hv, h1, same _ _ _ _ h2 (by decide), rest⟩
  rcases h with h | h
  · exact .inl (one _ h)
  · exact .inr (one _ h)

theorem Put.kept {b : Nat} {l : List UInt8} {B sb A : Nat} {W W' : World} {u : Value} (h : Put b l W W') (hsz : W.heap.size ≤ W'.heap.size) (hb : b < B) (hbs : b ≠ sb) (hbA : b ≠ A) (hs : Boxed W sb 9 u) (hA : ∃ o : Obj, W.heap[A]? = some o ∧ isSpot o) : Kept B sb A W W' := by
  obtain ⟨_, _, hk⟩ := h
  refine ⟨hsz, fun k o hB ho hc => hk k o ho (by simp; omega) (fun c fz e => by subst e; cases hc), fun o ho => hk sb o ho (by simpa using Ne.symm hbs) fun c fz e => ?_, fun o ho => hk A o ho (by simpa using Ne.symm hbA) fun c fz e => ?_⟩
  · rw [show W.heap[sb]? = _ from hs] at ho
    subst e
    simp at ho
  · obtain ⟨o', ho', c', z', e'⟩ := hA
    rw [ho'] at ho
    subst e' e
    simp at ho

def hexd (n : Nat) : UInt8 := [48, 49, 50, 51, 52, 53, 54, 55, 56, 57, 97, 98, 99, 100, 101, 102].getD n 0
/-- What Quote writes of a rune. -/
def piece (l : List UInt8) (x : El) : List UInt8 :=
  if x.r = 34 ∨ x.r = 92 then 92 :: Lib.encodeRune x.r
  else if x.r = 10 then [92, 110]
  else if x.r < 32 ∨ x.r = 127 then [92, 120, hexd ((l.getD x.off 0).toNat / 16), hexd ((l.getD x.off 0).toNat % 16)]
  else Lib.encodeRune x.r
def qt (l : List UInt8) : List UInt8 := 34 :: (els l).flatMap (piece l) ++ [34]
theorem enc_le (r : Int) : (Lib.encodeRune r).length ≤ 4 := by
  have := Lib.runeCells_le r
  rw [Lib.runeCells_length] at this
  omega
theorem piece_len (l : List UInt8) (x : El) : (piece l x).length ≤ 5 := by
  have := enc_le x.r
  unfold piece
  split
  · simp; omega
  · split
    · simp
    · split
      · simp
      · omega
theorem flat_len (l : List UInt8) : ∀ p : List El, (p.flatMap (piece l)).length ≤ 5 * p.length
  | [] => by simp
  | x :: p => by
    have h1 := flat_len l p
    have h2 := piece_len l x
    rw [List.flatMap_cons, List.length_append, List.length_cons]
    omega
theorem elS_mem : ∀ (l : List UInt8) (off line col : Nat) (x : El), x ∈ elS off line col (ru l) → x.off < off + l.length ∧ -1 ≤ x.r ∧ x.r ≤ 1114111 := by
  refine ru_ind (fun off line col x h => by simp [ru_nil, elS] at h) ?_
  intro l hl ih off line col x h
  have hp : 0 < l.length := List.length_pos_iff.2 hl
  have hw := wd_le l hl
  rw [ru_step l hl, elS_step] at h
  simp only [List.mem_cons] at h
  rcases h with rfl | h
  · exact ⟨by dsimp only; omega, rv_lo l, rv_hi l⟩
  · obtain ⟨h1, h2, h3⟩ := ih _ _ _ x h
    rw [List.length_drop] at h1
    exact ⟨by omega, h2, h3⟩
theorem els_mem (l : List UInt8) (x : El) (h : x ∈ els l) : x.off < l.length ∧ -1 ≤ x.r ∧ x.r ≤ 1114111 := by
  have := elS_mem l 0 1 1 x h
  omega
end Go.Proofs.YthmhcpghfbifiaaGreatDoor

/- Quote's walk. -/
namespace Go.Proofs.YthmhcpghfbifiaaGreatDoor
open Go.RowKit
attribute [local go_sem] Oper.semAt_some

theorem idx_dig (n : Nat) (hn : n < 16) (w : World) : (Instr.index 9 (.string ⟨#[48, 49, 50, 51, 52, 53, 54, 55, 56, 57, 97, 98, 99, 100, 101, 102]⟩) (.int .u8 (n : Int))).run Tryz.prog w = .ok (.int .u8 ((hexd n).toNat : Int)) w := by
  have h1 : (n : Int) < 16 := by omega
  simp [go_sem, h1]
  have h : n = 0 ∨ n = 1 ∨ n = 2 ∨ n = 3 ∨ n = 4 ∨ n = 5 ∨ n = 6 ∨ n = 7 ∨ n = 8 ∨ n = 9 ∨ n = 10 ∨ n = 11 ∨ n = 12 ∨ n = 13 ∨ n = 14 ∨ n = 15 := by omega
  rcases h with rfl | rfl | rfl | rfl | rfl | rfl | rfl | rfl | rfl | rfl | rfl | rfl | rfl | rfl | rfl | rfl
  all_goals rfl
theorem and15 (x : Nat) (hx : x < 256) : bits .and .u8 (x : Int) 15 = ((x % 16 : Nat) : Int) := by
  have h := u8_and_nat x 15 hx (by decide)
  rw [nat_mask4] at h
  exact h
theorem byte_at (s : ByteArray) (i : Nat) (h : i < s.size) : (s[i]'h).toNat = (s.data.toList.getD i 0).toNat := by
  have h' : i < s.data.toList.length := by rw [Array.length_toList]; exact h
  rw [List.getD_eq_getElem?_getD, List.getElem?_eq_getElem h']
  rfl

end Go.Proofs.YthmhcpghfbifiaaGreatDoor

/- What text.Unquote reads. -/
namespace Go.Proofs.YthmhcpghfbifiaaGreatDoor
open Go.RowKit

/-- A digit's number, as a byte; 255: none. -/
def dgt (c : UInt8) : Nat := ((Lib.indexByte [48, 49, 50, 51, 52, 53, 54, 55, 56, 57, 97, 98, 99, 100, 101, 102] c) % 256).toNat
theorem dgt_lt (c : UInt8) : dgt c < 256 := by
  unfold dgt
  omega

def dgtN (b : Nat) : Nat := dgt (UInt8.ofNat b)
def ins (l : List UInt8) : List UInt8 := if l.length < 2 then [] else (l.drop 1).take (l.length - 1 - 1)
/-- The byte for which an escape stands, and how long it is. -/
def escC (l : List UInt8) : UInt8 :=
  if Lib.hasPrefix l [92, 110] = true then 10
  else if Lib.hasPrefix l [92, 120] = true ∧ 4 ≤ l.length then (dgt (l.getD 2 0) * 16 % 256 ||| dgt (l.getD 3 0)).toUInt8
  else if 2 ≤ l.length then l.getD 1 0
  else 92
def escN (l : List UInt8) : Nat :=
  if Lib.hasPrefix l [92, 110] = true then 2
  else if Lib.hasPrefix l [92, 120] = true ∧ 4 ≤ l.length then 4
  else if 2 ≤ l.length then 2
  else 1

theorem pfx_nx (l : List UInt8) (h : Lib.hasPrefix l [92, 110] = true) : Lib.hasPrefix l [92, 120] = false := by
  match l with
  | [] => rfl
  | [a] => simp [Lib.hasPrefix, List.isPrefixOf]
  | a :: b :: t =>
    simp [Lib.hasPrefix, List.isPrefixOf] at h ⊢
    intro _
    rw [← h.2]
    decide

end Go.Proofs.YthmhcpghfbifiaaGreatDoor

/- What unescape makes of every text; what Unquote answers. -/
namespace Go.Proofs.YthmhcpghfbifiaaGreatDoor
open Go.RowKit

def uneF : Nat → Nat → List UInt8 → List UInt8
  | 0, _, _ => []
  | f + 1, sk, l =>
    if l = [] then []
    else if 0 < sk then uneF f (sk - wd l) (l.drop (wd l))
    else if rv l = 92 then escC l :: uneF f (escN l - wd l) (l.drop (wd l))
    else Lib.encodeRune (raw (rv l)) ++ uneF f 0 (l.drop (wd l))
theorem uneF_nil : ∀ (n sk : Nat), uneF n sk [] = []
  | 0, _ => rfl
  | _ + 1, _ => by simp [uneF]
theorem uneF_fuel : ∀ (n m sk : Nat) (l : List UInt8), l.length ≤ n → l.length ≤ m → uneF n sk l = uneF m sk l
  | 0, m, sk, l, hn, _ => by
    have : l = [] := List.eq_nil_of_length_eq_zero (by omega)
    subst this
    rw [uneF_nil, uneF_nil]
  | n + 1, 0, sk, l, _, hm => by
    have : l = [] := List.eq_nil_of_length_eq_zero (by omega)
    subst this
    rw [uneF_nil, uneF_nil]
  | n + 1, m + 1, sk, l, hn, hm => by
    by_cases hne : l = []
    · subst hne
      rw [uneF_nil, uneF_nil]
    · have hw := wd_pos l
      have hl : 0 < l.length := List.length_pos_iff.2 hne
      have e : ∀ b, uneF n b (l.drop (wd l)) = uneF m b (l.drop (wd l)) := fun b => uneF_fuel n m _ _ (by rw [List.length_drop]; omega) (by rw [List.length_drop]; omega)
      simp only [uneF, if_neg hne, e]
def une (sk : Nat) (l : List UInt8) : List UInt8 := uneF l.length sk l
theorem une_nil (sk : Nat) : une sk [] = [] := rfl
theorem une_step (sk : Nat) (l : List UInt8) (h : l ≠ []) :
    une sk l = if 0 < sk then une (sk - wd l) (l.drop (wd l)) else if rv l = 92 then escC l :: une (escN l - wd l) (l.drop (wd l)) else Lib.encodeRune (raw (rv l)) ++ une 0 (l.drop (wd l)) := by
  have hw := wd_pos l
  have hl : 0 < l.length := List.length_pos_iff.2 h
  unfold une
  obtain ⟨n, hn⟩ : ∃ n, l.length = n + 1 := ⟨l.length - 1, by omega⟩
  rw [hn]
  have e : ∀ b, uneF n b (l.drop (wd l)) = uneF (l.drop (wd l)).length b (l.drop (wd l)) := fun b => uneF_fuel n _ _ _ (by rw [List.length_drop]; omega) (Nat.le_refl _)
  simp only [uneF, if_neg h, e]
theorem escN_le (l : List UInt8) : 1 ≤ escN l ∧ escN l ≤ 4 := by
  unfold escN
  split
  · omega
  · split
    · omega
    · split <;> omega
theorem une_len : ∀ (l : List UInt8) (sk : Nat), (une sk l).length ≤ 4 * l.length := by
  refine ru_ind (fun _ => by simp [une_nil]) ?_
  intro l hl ih sk
  have := wd_pos l
  have hw := wd_le l hl
  have hp : 0 < l.length := List.length_pos_iff.2 hl
  have h4 := enc_le (raw (rv l))
  rw [une_step _ _ hl]
  split
  · have := ih (sk - wd l)
    rw [List.length_drop] at this
    omega
  · split
    · have := ih (escN l - wd l)
      rw [List.length_drop] at this
      rw [List.length_cons]
      omega
    · have := ih 0
      rw [List.length_drop] at this
      rw [List.length_append]
      omega
theorem Bld.drewN {b : Nat} {l : List UInt8} {W : World} (h : Bld b l W) (n : Nat) : Bld b l (W.drewN n) := h

def unT (l : List UInt8) : List UInt8 := if qt (une 0 (ins l)) = l then une 0 (ins l) else []
def unE (l : List UInt8) : Int := if qt (une 0 (ins l)) = l then 0 else 24
theorem ins_len (l : List UInt8) : (ins l).length ≤ l.length := by
  unfold ins
  split
  · simp
  · rw [List.length_take, List.length_drop]
    omega

def padT (l : List UInt8) (n : Int) : List UInt8 := if n < 0 ∨ 4096 < n then [] else l ++ List.replicate (n - (ru l).length).toNat 32
def padE (n : Int) : Int := if n < 0 ∨ 4096 < n then 23 else 0
theorem cat_str (s : ByteArray) (t : List UInt8) : s ++ str t = str (s.data.toList ++ t) := by
  have : (s ++ str t).data.toList = s.data.toList ++ t := by simp [str]
  rw [← this, str_bytes]
end Go.Proofs.YthmhcpghfbifiaaGreatDoor

/- What must come, whatever else is so: alive answers true. -/
namespace Go.Proofs.YthmhcpghfbifiaaGreatDoor
open Go.RowKit

theorem els_a : els [97, 206, 178, 255] = [⟨0, 1, 1, 97⟩, ⟨1, 1, 2, 946⟩, ⟨3, 1, 3, -1⟩] := by kernel_rfl
theorem lines_a : lines [97, 10, 10, 98] = [(1, [97]), (2, []), (3, [98])] := by kernel_rfl
theorem words_a : wds 0 0 false [32, 32, 105, 110, 118, 32, 112, 49, 32, 35, 120] = [⟨[105, 110, 118], 2, 3⟩, ⟨[112, 49], 6, 7⟩] := by kernel_rfl
theorem dec12 : Lib.itoa (-12) = [45, 49, 50] := by
  have h1 : Lib.decDigits 12 = [49, 50] := by
    rw [Lib.decDigits, dif_neg (by decide), Lib.decDigits, dif_pos (by decide)]
    rfl
  show 45 :: Lib.decDigits 12 = _
  rw [h1]
theorem dec0 : Lib.itoa 0 = [48] := by
  show Lib.decDigits 0 = _
  rw [Lib.decDigits, dif_pos (by decide)]
  rfl
theorem wrap_a : wrapd [45, 49, 50] = -12 := by kernel_rfl
theorem qt_a : qt [97, 10, 34, 206, 178] = [34, 97, 92, 110, 92, 34, 206, 178, 34] := by kernel_rfl
theorem une_a : une 0 (ins [34, 97, 92, 110, 92, 34, 206, 178, 34]) = [97, 10, 34, 206, 178] := by kernel_rfl
theorem pad_a : padT [206, 178] 3 = [206, 178, 32, 32] := by kernel_rfl
theorem name_a : nameE [206, 187, 49] = 0 := by kernel_rfl
theorem name_b : nameE [49, 97] = 21 := by kernel_rfl
theorem width_a : (ru [97, 206, 178, 10, 99]).length = 4 := by kernel_rfl
end Go.Proofs.YthmhcpghfbifiaaGreatDoor

/- alive's walk. -/
namespace Go.Proofs.YthmhcpghfbifiaaGreatDoor
open Go.RowKit

theorem keepCell {w w' : World} {a : Addr} {v : Value} (h : w.cell? a = some v) (hb : Below w.heap.size w w') : w'.cell? a = some v := (hb.cell (World.block_lt_of_cell? w a h)).trans h
theorem rowCell {w : World} {base : Nat} {e : TypeId} {size g k cap : Nat} {xs : List Value} (h : w.ownsRow base e size (.slice (some ⟨g, 0, none⟩) k cap) k xs) (j : Nat) (u : Value) (hj : xs[j]? = some u) : w.cell? ⟨g, j, none⟩ = some u := by
  have := h.cells (g := g) rfl j u hj
  rw [Addr.add_lit, Nat.zero_add] at this
  exact this

theorem aWords (w : World) : Calls Tryz.prog 22 #[.string ⟨#[32, 32, 105, 110, 118, 32, 112, 49, 32, 35, 120]⟩, .int .i64 7] w fun e w' => ∃ g1 c1, e = .returned (.slice (some ⟨g1, 0, none⟩) 2 c1) ∧
    w'.cell? ⟨g1, 0, none⟩ = some (.string ⟨#[105, 110, 118]⟩) ∧ w'.cell? ⟨g1, 1, none⟩ = some (.int .i64 2) ∧ w'.cell? ⟨g1, 2, none⟩ = some (.int .i64 7) ∧ w'.cell? ⟨g1, 3, none⟩ = some (.int .i64 3) ∧ Below w.heap.size w w' := by
  refine (words_k ⟨#[32, 32, 105, 110, 118, 32, 112, 49, 32, 35, 120]⟩ (by decide) 7 w).mono ?_
  rintro e w' ⟨va, rfl, h1, hb⟩
  rw [show (⟨#[32, 32, 105, 110, 118, 32, 112, 49, 32, 35, 120]⟩ : ByteArray).data.toList = [32, 32, 105, 110, 118, 32, 112, 49, 32, 35, 120] from rfl, words_a] at h1
  obtain ⟨g1, c1, rfl⟩ := ownsRow_succ h1
  exact ⟨g1, c1, rfl, rowCell h1 0 _ rfl, rowCell h1 1 _ rfl, rowCell h1 2 _ rfl, rowCell h1 3 _ rfl, hb⟩
theorem aNumber (w : World) (ht : Tabs w) : Calls Tryz.prog 152 #[.string ⟨#[45, 49, 50]⟩] w fun e w' => e = .returned (.tuple #[.int .i64 (-12), .int .i64 0]) ∧ Below w.heap.size w w' := by
  have h := number_k ⟨#[45, 49, 50]⟩ (by decide) w ht
  have e0 : (⟨#[45, 49, 50]⟩ : ByteArray).data.toList = [45, 49, 50] := rfl
  have e1 : numV [45, 49, 50] = -12 := by unfold numV; rw [wrap_a, dec12, if_pos rfl]
  have e2 : numE [45, 49, 50] = 0 := by unfold numE; rw [wrap_a, dec12, if_pos rfl]
  rw [e0, e1, e2] at h
  exact h
theorem aName1 (w : World) (ht : Tabs w) : Calls Tryz.prog 54 #[.string ⟨#[206, 187, 49]⟩] w fun e w' => e = .returned (.int .i64 0) ∧ Below w.heap.size w w' := by
  have h := name_k ⟨#[206, 187, 49]⟩ (by decide) w ht
  have e0 : (⟨#[206, 187, 49]⟩ : ByteArray).data.toList = [206, 187, 49] := rfl
  rw [e0, name_a] at h
  exact h
theorem aName2 (w : World) (ht : Tabs w) : Calls Tryz.prog 54 #[.string ⟨#[49, 97]⟩] w fun e w' => e = .returned (.int .i64 21) ∧ Below w.heap.size w w' := by
  have h := name_k ⟨#[49, 97]⟩ (by decide) w ht
  have e0 : (⟨#[49, 97]⟩ : ByteArray).data.toList = [49, 97] := rfl
  rw [e0, name_b] at h
  exact h
theorem aWidth (w : World) : Calls Tryz.prog 74 #[.string ⟨#[97, 206, 178, 10, 99]⟩] w fun e w' => e = .returned (.int .i64 4) ∧ Below w.heap.size w w' := by
  have h := width_k ⟨#[97, 206, 178, 10, 99]⟩ (by decide) w
  have e0 : (⟨#[97, 206, 178, 10, 99]⟩ : ByteArray).data.toList = [97, 206, 178, 10, 99] := rfl
  rw [e0, width_a] at h
  exact h
theorem aDecimal (w : World) (ht : Tabs w) : Calls Tryz.prog 51 #[.int .i64 0] w fun e w' => e = .returned (.string ⟨#[48]⟩) ∧ Below w.heap.size w w' := by
  have h := decimal_k 0 (by decide) (by decide) w ht
  rw [dec0] at h
  exact h
theorem wordEq (w : World) : (binOp BinOp.eql 93 (.agg #[.string ⟨#[105, 110, 118]⟩, .int .i64 2, .int .i64 7, .int .i64 3]) (.agg #[.string ⟨#[105, 110, 118]⟩, .int .i64 2, .int .i64 7, .int .i64 3])).run Tryz.prog w = .ok (.bool true) w := by kernel_rfl

end Go.Proofs.YthmhcpghfbifiaaGreatDoor

/- The document's lines; and that lines put together again are the text. -/
namespace Go.Proofs.YthmhcpghfbifiaaGreatDoor
open Go.RowKit

def lineVals (x : List (List UInt8)) : List Value := x.map fun c => .string (str c)
theorem lineVals_snoc (x : List (List UInt8)) (c : List UInt8) : lineVals (x ++ [c]) = lineVals x ++ [.string (str c)] := by simp [lineVals]

theorem drop_byte (s : ByteArray) (k : Nat) (h : k < s.size) : s.data.toList.drop k = s.data.toList.getD k 0 :: s.data.toList.drop (k + 1) := by
  have h' : k < s.data.toList.length := by rw [Array.length_toList]; exact h
  rw [List.drop_eq_getElem_cons h', List.getD_eq_getElem?_getD, List.getElem?_eq_getElem h']
  rfl
theorem take_more (l : List UInt8) (b k : Nat) (hb : b ≤ k) (hk : k < l.length) : (l.drop b).take (k - b) ++ [l.getD k 0] = (l.drop b).take (k + 1 - b) := by
  have e : k + 1 - b = (k - b) + 1 := by omega
  rw [e, List.take_add_one, List.getElem?_drop]
  have e2 : b + (k - b) = k := by omega
  rw [e2, List.getD_eq_getElem?_getD, List.getElem?_eq_getElem hk]
  rfl

def joinL (x : List (List UInt8)) : List UInt8 := x.flatMap fun c => c ++ [10]
def fin10 : List UInt8 → List UInt8
  | [] => []
  | [b] => if b = 10 then [10] else [b, 10]
  | b :: c :: t => b :: fin10 (c :: t)
theorem join_lns : ∀ (l cur : List UInt8), l ≠ [] → joinL (lns cur l) = cur ++ fin10 l
  | [], _, h => absurd rfl h
  | [b], cur, _ => by
    by_cases h : b = 10
    · subst h
      simp [lns, joinL, fin10]
    · simp [lns, joinL, fin10, h]
  | b :: c :: t, cur, _ => by
    have ih := fun cur => join_lns (c :: t) cur (by simp)
    by_cases h : b = 10
    · subst h
      have e : lns cur (10 :: c :: t) = cur :: lns [] (c :: t) := by rw [lns, if_pos rfl]
      rw [e]
      have := ih []
      simp only [joinL] at this ⊢
      rw [List.flatMap_cons, this]
      simp [fin10]
    · have e : lns cur (b :: c :: t) = lns (cur ++ [b]) (c :: t) := by rw [lns, if_neg h]
      rw [e, ih]
      simp [fin10]
theorem fin10_last : ∀ l : List UInt8, l ≠ [] → fin10 l = if l.getD (l.length - 1) 0 = 10 then l else l ++ [10]
  | [], h => absurd rfl h
  | [b], _ => by
    by_cases h : b = 10
    · subst h
      rfl
    · simp [fin10, h]
  | b :: c :: t, _ => by
    have ih := fin10_last (c :: t) (by simp)
    have e : (b :: c :: t).getD ((b :: c :: t).length - 1) 0 = (c :: t).getD ((c :: t).length - 1) 0 := by simp
    rw [e, fin10, ih]
    split <;> simp
end Go.Proofs.YthmhcpghfbifiaaGreatDoor
