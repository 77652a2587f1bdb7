/- What text.Words answers: the words of a line, with their places. -/
import Derived.Test.YtpbebcefnkbnlabDoorTText
namespace Go.Proofs.YtpbebcefnkbnlabDoor
open Go.RowKit

/-- A word: its text, where it begins, its column. -/
structure Wd where
  text : List UInt8
  off : Nat
  col : Nat

def wdsF : Nat → Nat → Nat → Bool → List UInt8 → List Wd
  | 0, _, _, _, _ => []
  | f + 1, off, col, ins, l =>
    if l = [] then []
    else if isBlank (rv l) then wdsF f (off + wd l) (col + 1) false (l.drop (wd l))
    else if ins then wdsF f (off + wd l) (col + 1) true (l.drop (wd l))
    else if rv l = 35 then []
    else ⟨tw l, off, col + 1⟩ :: wdsF f (off + wd l) (col + 1) true (l.drop (wd l))
theorem wdsF_nil : ∀ (n off col : Nat) (ins : Bool), wdsF n off col ins [] = []
  | 0, _, _, _ => rfl
  | _ + 1, _, _, _ => by simp [wdsF]
theorem wdsF_fuel : ∀ (n m off col : Nat) (ins : Bool) (l : List UInt8), l.length ≤ n → l.length ≤ m → wdsF n off col ins l = wdsF m off col ins l
  | 0, m, off, col, ins, l, hn, _ => by
    have : l = [] := List.eq_nil_of_length_eq_zero (by omega)
    subst this
    rw [wdsF_nil, wdsF_nil]
  | n + 1, 0, off, col, ins, l, _, hm => by
    have : l = [] := List.eq_nil_of_length_eq_zero (by omega)
    subst this
    rw [wdsF_nil, wdsF_nil]
  | n + 1, m + 1, off, col, ins, l, hn, hm => by
    by_cases hne : l = []
    · subst hne
      rw [wdsF_nil, wdsF_nil]
    · have hw := wd_pos l
      have hl : 0 < l.length := List.length_pos_iff.2 hne
      have e : ∀ b, wdsF n (off + wd l) (col + 1) b (l.drop (wd l)) = wdsF m (off + wd l) (col + 1) b (l.drop (wd l)) := fun b => wdsF_fuel n m _ _ _ _ (by rw [List.length_drop]; omega) (by rw [List.length_drop]; omega)
      simp only [wdsF, if_neg hne, e]
def wds (off col : Nat) (ins : Bool) (l : List UInt8) : List Wd := wdsF l.length off col ins l
theorem wds_step (off col : Nat) (ins : Bool) (l : List UInt8) (h : l ≠ []) :
    wds off col ins l = if isBlank (rv l) then wds (off + wd l) (col + 1) false (l.drop (wd l))
      else if ins then wds (off + wd l) (col + 1) true (l.drop (wd l))
      else if rv l = 35 then []
      else ⟨tw l, off, col + 1⟩ :: wds (off + wd l) (col + 1) true (l.drop (wd l)) := by
  have hw := wd_pos l
  have hl : 0 < l.length := List.length_pos_iff.2 h
  unfold wds
  obtain ⟨n, hn⟩ : ∃ n, l.length = n + 1 := ⟨l.length - 1, by omega⟩
  rw [hn]
  have e : ∀ b, wdsF n (off + wd l) (col + 1) b (l.drop (wd l)) = wdsF (l.drop (wd l)).length (off + wd l) (col + 1) b (l.drop (wd l)) := fun b => wdsF_fuel n _ _ _ _ _ (by rw [List.length_drop]; omega) (Nat.le_refl _)
  simp only [wdsF, if_neg h, e]
theorem wds_nil (off col : Nat) (ins : Bool) : wds off col ins [] = [] := rfl
theorem wds_len : ∀ (l : List UInt8) (off col : Nat) (ins : Bool), (wds off col ins l).length ≤ l.length := by
  refine ru_ind (fun _ _ _ => by simp [wds_nil]) ?_
  intro l hl ih off col ins
  have := wd_pos l
  have hp : 0 < l.length := List.length_pos_iff.2 hl
  have h1 := fun b => ih (off + wd l) (col + 1) b
  simp only [List.length_drop] at h1
  rw [wds_step _ _ _ _ hl]
  have h2 := h1 false
  have h3 := h1 true
  split
  · omega
  · split
    · omega
    · split
      · simp
      · rw [List.length_cons]
        omega

def wordCells (n : Int) (l : List Wd) : List Value := l.flatMap fun x => [.string (str x.text), .int .i64 x.off, .int .i64 n, .int .i64 x.col]
theorem wordCells_snoc (n : Int) (l : List Wd) (x : Wd) : wordCells n (l ++ [x]) = wordCells n l ++ [.string (str x.text), .int .i64 x.off, .int .i64 n, .int .i64 x.col] := by simp [wordCells]
theorem infoWord : (Tryd.prog.info? 73).map (fun i => (i.zero, i.size, i.bytes)) = some (some (.agg #[.string ⟨#[]⟩, .int .i64 0, .int .i64 0, .int .i64 0]), 4, 40) := by kernel_rfl
theorem cell_four_at (w : World) (x y z u : Value) (t : TypeId) (N : Nat) (hN : N = w.heap.size) : ∀ j v, [x, y, z, u][j]? = some v → (w.alloc (.cells #[x, y, z, u] t)).cell? ((⟨N, 0, none⟩ : Addr).add j) = some v := by
  subst hN
  intro j v hj
  match j, hj with
  | 0, hj => simp at hj; subst hj; simp [Addr.add]
  | 1, hj => simp at hj; subst hj; simp [Addr.add]
  | 2, hj => simp at hj; subst hj; simp [Addr.add]
  | 3, hj => simp at hj; subst hj; simp [Addr.add]

set_option maxRecDepth 100000 in
set_option maxHeartbeats 2000000 in
theorem words_k (s : ByteArray) (hs : s.size ≤ 1048576) (n : Int) (w : World) :
    Calls Tryd.prog 34 #[.string s, .int .i64 n] w fun e w' => ∃ v, e = .returned v ∧ w'.ownsRow w.heap.size 73 4 v (wds 0 0 false s.data.toList).length (wordCells n (wds 0 0 false s.data.toList)) ∧ Below w.heap.size w w' := by
  obtain ⟨i3, hi3, h30, h31, h32⟩ := info_parts infoWord
  have hrg := fun w' => run_range_string (P := Tryd.prog) w' 9 s Tryd.underlying9
  have hlen : s.data.toList.length = s.size := by rw [Array.length_toList]; rfl
  go_enter Tryd.func34, Tryd.ntmps34
  go_wp2
  go_loopw [5, 6, 7, 8, 9] (fun v vc vi _ _ wr => ∃ (k col : Nat) (ins : Bool) (pre : List Wd), vc = .int .i64 (col : Int) ∧ vi = .bool ins ∧ k ≤ s.size ∧ col ≤ k ∧ pre.length ≤ k ∧ wds 0 0 false s.data.toList = pre ++ wds k col ins (s.data.toList.drop k) ∧ wr.heap[w.heap.size]? = some (.stringIter s k) ∧ Below w.heap.size w wr ∧ wr.ownsRow (w.heap.size + 1) 73 4 v pre.length (wordCells n pre))
    (fun _ _ _ _ _ wr => s.size - wr.iterPos w.heap.size)
  case atStart => exact ⟨0, 0, false, [], rfl, rfl, Nat.zero_le _, Nat.le_refl _, Nat.le_refl _, by simp, World.iter_heap w s 0, (Below.refl _ w).alloc (Nat.le_refl _) _, World.ownsRow_nil _ _ _ _⟩
  case round =>
    obtain ⟨k, col, ins, pre, rfl, rfl, hk, hck, hpk, hwds, hit, hbel, hrow⟩ := hrel
    have hpos : wr.iterPos w.heap.size = k := by simp [World.iterPos, hit]
    have hsW : w.heap.size < wr.heap.size := (Array.getElem?_eq_some_iff.1 hit).1
    clear hrg
    obtain ⟨ao, cp, rfl⟩ := row_slice hrow
    by_cases hlt : k < s.size
    · have hnx := fun ty => Lib.run_next_any_at (P := Tryd.prog) wr w.heap.size s k ty hit hlt
      rw [wd_dec] at hnx
      have h1 := wd_pos (s.data.toList.drop k)
      have h2 := wd_room s k hlt
      have hit2 := Lib.iterAt_heap wr w.heap.size s k (k + wd (s.data.toList.drop k)) hit
      have hbel2 := Lib.below_iterAt hbel (k := w.heap.size) (Nat.le_refl _) s (k + wd (s.data.toList.drop k))
      have hrow2 : (wr.iterAt w.heap.size s (k + wd (s.data.toList.drop k))).ownsRow (w.heap.size + 1) 73 4 (.slice ao pre.length cp) pre.length (wordCells n pre) := hrow.kept (grown_iter _ _ _ _) (by
        rcases hrow.2 with ⟨e, _⟩ | ⟨g, cap, cur, e, hb, _⟩
        · rw [e]; exact .inl rfl
        · rw [e]; right; simp [Value.ownBlock]; omega)
      have hb := rv_dec s k
      have hr35 : rv (s.data.toList.drop k) = 35 ↔ ((Utf8.decode s k).1 : Int) = 35 := by
        unfold rv
        rw [Lib.decodeL_drop s k]
        split <;> omega
      rw [wds_step _ _ _ _ (drop_ne s k hlt), List.drop_drop] at hwds
      have hext : s.extract k s.size = str (s.data.toList.drop k) := by rw [extract_str, List.take_of_length_le (by rw [List.length_drop, hlen]; exact Nat.le_refl _)]
      cases hbl : isBlank (rv (s.data.toList.drop k)) with
      | true =>
        rw [hbl] at hb hwds
        rw [if_pos rfl] at hwds
        have HB := hide hb.symm
        clear hbl hb hr35
        generalize (Utf8.decode s k).1 = dr at *
        generalize wd (s.data.toList.drop k) = ww at *
        go_wp2_with (go_at_call 52; refine (blank_yes _ HB.out _).mono ?_; rintro e w1 ⟨rfl, rfl⟩)
        go_roundw
        case rel => exact ⟨k + ww, col + 1, false, pre, by simp, rfl, h2, by omega, by omega, hwds, hit2, hbel2, hrow2⟩
        case measure =>
          have hp : (wr.iterAt w.heap.size s (k + ww)).iterPos w.heap.size = k + ww := by simp only [World.iterPos, hit2]
          rw [hp, hpos]
          omega
      | false =>
        rw [hbl] at hb hwds
        rw [if_neg (by decide)] at hwds
        have HB := hide hb.symm
        clear hbl hb
        cases ins with
        | true =>
          rw [if_pos rfl] at hwds
          clear hr35
          generalize (Utf8.decode s k).1 = dr at *
          generalize wd (s.data.toList.drop k) = ww at *
          go_wp2_with (go_at_call 52; refine (blank_no _ HB.out _).mono ?_; rintro e w1 ⟨rfl, rfl⟩)
          go_roundw
          case rel => exact ⟨k + ww, col + 1, true, pre, by simp, rfl, h2, by omega, by omega, hwds, hit2, hbel2, hrow2⟩
          case measure =>
            have hp : (wr.iterAt w.heap.size s (k + ww)).iterPos w.heap.size = k + ww := by simp only [World.iterPos, hit2]
            rw [hp, hpos]
            omega
        | false =>
          rw [if_neg (by decide)] at hwds
          by_cases h35 : rv (s.data.toList.drop k) = 35
          · rw [if_pos h35, List.append_nil] at hwds
            rw [hr35] at h35
            clear hr35
            generalize (Utf8.decode s k).1 = dr at *
            generalize wd (s.data.toList.drop k) = ww at *
            have hdr : dr = 35 := by omega
            subst hdr
            clear h35
            go_wp2_with (go_at_call 52; refine (blank_no _ (by decide) _).mono ?_; rintro e w1 ⟨rfl, rfl⟩)
            go_ret
            rw [hwds]
            exact ⟨_, rfl, row_base hrow2 (by omega), hbel2⟩
          · rw [if_neg h35] at hwds
            rw [hr35] at h35
            have htwl : (tw (s.data.toList.drop k)) = tw (str (s.data.toList.drop k)).data.toList := by rw [bytes_str]
            clear hr35
            generalize (Utf8.decode s k).1 = dr at *
            generalize wd (s.data.toList.drop k) = ww at *
            have hz : (str (s.data.toList.drop k)).size ≤ 281474976702464 := by
              rw [str_size, List.length_drop, hlen]
              omega
            go_wp2_with (first
              | (go_at_call 52; refine (blank_no _ HB.out _).mono ?_; rintro e w1 ⟨rfl, rfl⟩)
              | (go_at_call 53; refine (untilBlank_k _ hz _).mono ?_; rintro e w1 ⟨rfl, hb1⟩; have hrow3 := row_below hrow2 hb1; have hsz1 := hb1.size; rw [Lib.iterAt_size] at hsz1)
              | (at_builtin; refine wpList_append_own _ rfl _ _ 68 rfl (w.heap.size + 1) 73 i3 (.agg #[.string ⟨#[]⟩, .int .i64 0, .int .i64 0, .int .i64 0]) 4 40 Tryd.underlying68 hi3 h30 h31 h32 rfl (by decide) _ _ _ rfl (hrow3.alloc _) ⟨w1.heap.size, 0, none⟩ 1 1 [.string (str (tw (str (s.data.toList.drop k)).data.toList)), .int .i64 k, .int .i64 n, .int .i64 (col + 1)] rfl rfl (cell_four_at _ _ _ _ _ _ _ rfl) (by simp [Value.oneCell']) (by unfold maxLen; omega) (by omega) (by simp; omega) ?_; intro v' w2 hown' hgrow _; obtain ⟨g', cap', rfl⟩ := ownsRow_succ hown'))
            rw [← htwl] at hown'
            have hsz2 := hgrow.size
            rw [World.size_alloc] at hsz2
            have far : some w.heap.size ≠ (Value.slice ao pre.length cp).ownBlock := fun e => by have := (row_block hrow _ e.symm).1; omega
            have hit3 : w2.heap[w.heap.size]? = some (.stringIter s (k + ww)) := by
              rw [hgrow.block _ (by simp; omega) far, Below.heap_alloc _ _ _ (by omega), hb1.block _ (by rw [Lib.iterAt_size]; omega)]
              exact hit2
            have hbel3 : Below w.heap.size w w2 := (((hbel2.trans (hb1.mono (by rw [Lib.iterAt_size]; omega))).alloc (by omega) _).grown hgrow (by simp; omega) (fun j ej => by have := (row_block hrow j ej).1; omega))
            go_roundw
            case rel =>
              refine ⟨k + ww, col + 1, true, pre ++ [⟨tw (s.data.toList.drop k), k, col + 1⟩], by simp, rfl, h2, by omega, by simp; omega, ?_, hit3, hbel3, ?_⟩
              · rw [hwds]
                simp
              · rw [wordCells_snoc, List.length_append]
                simpa using hown'
            case measure =>
              have hp : w2.iterPos w.heap.size = k + ww := by simp only [World.iterPos, hit3]
              rw [hp, hpos]
              omega
    · have hnx := fun ty => Lib.run_next_end_at (P := Tryd.prog) wr w.heap.size s k ty hit hlt
      rw [drop_end s k hlt, wds_nil, List.append_nil] at hwds
      go_wp2
      go_ret
      rw [hwds]
      exact ⟨_, rfl, row_base hrow (by omega), hbel⟩
end Go.Proofs.YtpbebcefnkbnlabDoor
