/- What text.Lines goes through: the text cut at each byte 10. -/
import Derived.Test.YtpbebcefnkbnlabDoorTCollect
namespace Go.Proofs.YtpbebcefnkbnlabDoor
open Go.RowKit
attribute [local go_sem] Oper.semAt_some

/-- Lines, cur being what the line under way has so far. -/
def lns (cur : List UInt8) : List UInt8 → List (List UInt8)
  | [] => if cur = [] then [] else [cur]
  | b :: t => if b = 10 then cur :: lns [] t else lns (cur ++ [b]) t

theorem lns_skip : ∀ (m : List UInt8) (cur t : List UInt8), (∀ b ∈ m, b ≠ 10) → lns cur (m ++ t) = lns (cur ++ m) t
  | [], cur, t, _ => by simp
  | b :: m, cur, t, h => by
    rw [List.cons_append, lns, if_neg (h b (by simp)), lns_skip m _ t (fun c hc => h c (by simp [hc]))]
    simp

theorem take_no10 (l : List UInt8) (hl : l ≠ []) (h : rv l ≠ 10) : ∀ b ∈ l.take (wd l), b ≠ 10 := by
  intro b hb e
  subst e
  obtain ⟨c, t, rfl⟩ : ∃ c t, l = c :: t := by cases l with | nil => exact absurd rfl hl | cons c t => exact ⟨c, t, rfl⟩
  by_cases hc : c.toNat < 128
  · obtain ⟨h1, h2⟩ := rv_ascii c t hc
    rw [h2] at hb
    simp at hb
    subst hb
    exact h (by rw [h1]; rfl)
  · have hw : wd (c :: t) = (Lib.decodeL (c :: t)).2 := rfl
    rw [hw] at hb
    rw [Lib.decodeL_N] at hb
    have k0 : ((c :: t).getD 0 0) = c := by simp
    rw [k0] at hb
    rcases Lib.decodeN_shape (c :: t).length c.toNat ((c :: t).getD 1 0).toNat ((c :: t).getD 2 0).toNat ((c :: t).getD 3 0).toNat with ⟨g, e⟩ | ⟨c1, c2, c3, cv, e⟩ | ⟨c1, c2, c3, c4, cv, cs, e⟩ | ⟨c1, c2, c3, c4, c5, cv, cw, e⟩ | e
    · omega
    · rw [e] at hb
      dsimp only at hb
      rw [Lib.takeB _ c2] at hb
      simp only [List.mem_cons, List.not_mem_nil, or_false, k0] at hb
      rcases hb with e | e
      · rw [← e] at hc; exact hc (by decide)
      · rw [← e] at c3; exact absurd c3 (by decide)
    · rw [e] at hb
      dsimp only at hb
      rw [Lib.takeC _ c2] at hb
      simp only [List.mem_cons, List.not_mem_nil, or_false, k0] at hb
      rcases hb with e | e | e
      · rw [← e] at hc; exact hc (by decide)
      · rw [← e] at c3; exact absurd c3 (by decide)
      · rw [← e] at c4; exact absurd c4 (by decide)
    · rw [e] at hb
      dsimp only at hb
      rw [Lib.takeD _ c2] at hb
      simp only [List.mem_cons, List.not_mem_nil, or_false, k0] at hb
      rcases hb with e | e | e | e
      · rw [← e] at hc; exact hc (by decide)
      · rw [← e] at c3; exact absurd c3 (by decide)
      · rw [← e] at c4; exact absurd c4 (by decide)
      · rw [← e] at c5; exact absurd c5 (by decide)
    · rw [e] at hb
      dsimp only at hb
      simp at hb
      rw [← hb] at hc
      exact hc (by decide)

theorem lns_rune (cur l : List UInt8) (hl : l ≠ []) (h : rv l ≠ 10) : lns cur l = lns (cur ++ l.take (wd l)) (l.drop (wd l)) := by
  conv => lhs; rw [← List.take_append_drop (wd l) l]
  exact lns_skip _ _ _ (take_no10 l hl h)
theorem lns_ten (cur l : List UInt8) (hl : l ≠ []) (h : rv l = 10) : lns cur l = cur :: lns [] (l.drop (wd l)) ∧ wd l = 1 := by
  obtain ⟨c, t, rfl⟩ : ∃ c t, l = c :: t := by cases l with | nil => exact absurd rfl hl | cons c t => exact ⟨c, t, rfl⟩
  have hc := (rv_low_iff c t 10 (by decide)).1 h
  have e : c = 10 := UInt8.toNat_inj.1 (by rw [hc]; rfl)
  subst e
  have h2 := (rv_ascii 10 t (by decide)).2
  rw [h2]
  exact ⟨by simp [lns], rfl⟩
theorem lns_len : ∀ (t cur : List UInt8), (lns cur t).length ≤ t.length + 1
  | [], cur => by unfold lns; split <;> simp
  | b :: t, cur => by
    unfold lns
    split
    · have := lns_len t []
      simp
      omega
    · have := lns_len t (cur ++ [b])
      simp
      omega

/-- A text of these bytes. -/
def str (l : List UInt8) : ByteArray := ⟨l.toArray⟩
theorem str_bytes (s : ByteArray) : str s.data.toList = s := by
  unfold str
  simp
theorem bytes_str (l : List UInt8) : (str l).data.toList = l := by simp [str]
theorem extract_str (s : ByteArray) (a b : Nat) : s.extract a b = str ((s.data.toList.drop a).take (b - a)) := by
  have : (s.extract a b).data.toList = (s.data.toList.drop a).take (b - a) := by simp [List.extract_eq_take_drop]
  rw [← this, str_bytes]

/-- Lines with their numbers, from n on. -/
def numd : Nat → List (List UInt8) → List (Nat × List UInt8)
  | _, [] => []
  | n, x :: r => (n, x) :: numd (n + 1) r
def lineV (x : Nat × List UInt8) : Array Value := #[.int .i64 x.1, .string (str x.2)]
def lines (l : List UInt8) : List (Nat × List UInt8) := numd 1 (lns [] l)
theorem numd_length : ∀ (x : List (List UInt8)) (n : Nat), (numd n x).length = x.length
  | [], _ => rfl
  | _ :: r, n => by simp [numd, numd_length r (n + 1)]

set_option maxRecDepth 100000 in
set_option maxHeartbeats 2000000 in
theorem lines_seq (n : Nat) (s : ByteArray) (hs : s.size ≤ 281474976702464) (sb : Nat) (w : World) (hsb : Boxed w sb 9 (.string s)) :
    Seq n Tryd.prog 50 #[.pointer (some ⟨sb, 0, none⟩)] lineV sb (w.heap.size + 2) (fun _ => True) (lines s.data.toList) w := fun l J Jx W hWs hWlow hJ hJx hY h0 => by
  have hsbW : Boxed W sb 9 (.string s) := (hWlow sb hsb.lt).trans hsb
  have hcs := hsbW.cell
  have hlen : s.data.toList.length = s.size := by rw [Array.length_toList]; rfl
  have hA : w.heap.size + 2 = W.heap.size := by omega
  rw [hA] at hJ hJx hY
  have HWs := hide hWs
  clear hWs hWlow hA
  have hrg := fun w' => run_range_string (P := Tryd.prog) w' 9 s Tryd.underlying9
  refine callsIn_of_wp Tryd.func50 rfl trivial ?_ rfl
  simp only [Tryd.ntmps50, List.size_toArray, List.length_cons, List.length_nil, Nat.reduceAdd, Nat.reduceSub, Array.replicate_succ, Array.replicate_zero, List.push_toArray, List.append_toArray, List.nil_append, List.cons_append]
  gi_wp2
  gi_loopw [3, 4, 5, 6] (fun vn vb _ _ wr => ∃ (k b : Nat) (pre : List (Nat × List UInt8)), vn = .int .i64 ((pre.length + 1 : Nat) : Int) ∧ vb = .int .i64 (b : Int) ∧ b ≤ k ∧ k ≤ s.size ∧ pre.length ≤ k ∧ wr.heap[W.heap.size]? = some (.stringIter s k) ∧ Boxed wr sb 9 (.string s) ∧ lines s.data.toList = pre ++ numd (pre.length + 1) (lns ((s.data.toList.drop b).take (k - b)) (s.data.toList.drop k)) ∧ J pre wr)
    (fun _ _ _ _ wr => s.size - wr.iterPos W.heap.size)
  case atStart =>
    refine ⟨0, 0, [], rfl, rfl, Nat.le_refl _, Nat.zero_le _, Nat.le_refl _, World.iter_heap W s 0, hsbW.alloc _, by simp [lines], hJ.alloc _ h0⟩
  case round =>
    obtain ⟨k, b, pre, rfl, rfl, hbk, hk, hpk, hit, hbx, hels, hJr⟩ := hrel
    have hpos : wr.iterPos W.heap.size = k := by simp [World.iterPos, hit]
    have hsW : W.heap.size < wr.heap.size := (Array.getElem?_eq_some_iff.1 hit).1
    have hsl := hsb.lt
    clear hrg hcs
    by_cases hlt : k < s.size
    · have hne : s.data.toList.drop k ≠ [] := by
        intro e
        have := congrArg List.length e
        rw [List.length_drop, hlen] at this
        simp at this
        omega
      have hd := Lib.decodeL_drop s k
      have hw1 : (Utf8.decode s k).2 = wd (s.data.toList.drop k) := by rw [wd, hd]
      have hr1 : rv (s.data.toList.drop k) = 10 ↔ (Utf8.decode s k).1 = 10 := by
        unfold rv
        rw [hd]
        split <;> omega
      have hwd := wd_pos (s.data.toList.drop k)
      have hwl := wd_le _ hne
      rw [List.length_drop, hlen] at hwl
      have hnx := fun ty => Lib.run_next_any_at (P := Tryd.prog) wr W.heap.size s k ty hit hlt
      rw [hw1] at hnx
      have hbx2 : Boxed (wr.iterAt W.heap.size s (k + wd (s.data.toList.drop k))) sb 9 (.string s) := hbx.kept (grown_iter _ _ _ _) (by have := HWs.out; simp; omega)
      have hit2 := Lib.iterAt_heap wr W.heap.size s k (k + wd (s.data.toList.drop k)) hit
      have hJ2 := hJ.iter (by have := HWs.out; omega) hit (k + wd (s.data.toList.drop k)) hJr
      have c2 := hbx2.cell
      by_cases hten : rv (s.data.toList.drop k) = 10
      · obtain ⟨hl1, hl2⟩ := lns_ten ((s.data.toList.drop b).take (k - b)) _ hne hten
        rw [hl1, List.drop_drop] at hels
        rw [hl2] at hnx hbx2 hit2 hJ2 c2 hels
        rw [numd] at hels
        rw [hr1] at hten
        rw [hten] at hnx
        obtain ⟨fn, tmps, assign, body, hy, hR⟩ := hY pre _ _ hJ2 ⟨_, hels⟩ ⟨_, hit2, trivial⟩
        dsimp only [lineV] at hy
        rw [← extract_str, Int.natCast_add, Int.natCast_one] at hy
        clear hl1 hl2
        gi_wp2
        refine ⟨(fun h => by cases h), hR.mono ?_⟩
        rintro e W4 (⟨rfl, hJ4, hk4⟩ | ⟨rfl, hJx4⟩)
        · have hit4 := hk4.other _ _ (by have := HWs.out; omega) hit2 rfl
          have hbx4 : Boxed W4 sb 9 (.string s) := hk4.box _ hbx2
          gi_wp2
          go_roundw
          case rel =>
            refine ⟨k + 1, k + 1, pre ++ [(pre.length + 1, (s.data.toList.drop b).take (k - b))], ?_, ?_, Nat.le_refl _, by omega, by simp; omega, hit4, hbx4, ?_, hJ4⟩
            · simp
            · simp
            · rw [hels]
              simp
          case measure =>
            have hp4 : W4.iterPos W.heap.size = k + 1 := by simp only [World.iterPos, hit4]
            rw [hp4, hpos]
            omega
        · gi_wp2
          refine bodyPost_ret (results_none rfl _ _ _) rfl ?_
          exact ⟨⟨_, rfl⟩, .inr ⟨_, _, _, hels, hJx4⟩⟩
      · rw [lns_rune _ _ hne hten, List.drop_drop] at hels
        have hcat : (s.data.toList.drop b).take (k - b) ++ (s.data.toList.drop k).take (wd (s.data.toList.drop k)) = (s.data.toList.drop b).take (k + wd (s.data.toList.drop k) - b) := by
          have e1 : k + wd (s.data.toList.drop k) - b = (k - b) + wd (s.data.toList.drop k) := by omega
          rw [e1, List.take_add, List.drop_drop]
          congr 3
          omega
        rw [hcat] at hels
        have hten' : (Utf8.decode s k).1 ≠ 10 := fun h => hten (hr1.2 h)
        generalize (Utf8.decode s k).1 = dr at *
        generalize wd (s.data.toList.drop k) = ww at *
        have hdi : ((dr : Int) ≠ 10) := by omega
        gi_wp2
        go_roundw
        case rel => exact ⟨k + ww, b, pre, rfl, rfl, by omega, by omega, by omega, hit2, hbx2, hels, hJ2⟩
        case measure =>
          have hp4 : (wr.iterAt W.heap.size s (k + ww)).iterPos W.heap.size = k + ww := by simp only [World.iterPos, hit2]
          rw [hp4, hpos]
          omega
    · have hnx := fun ty => Lib.run_next_end_at (P := Tryd.prog) wr W.heap.size s k ty hit hlt
      have hke : k = s.size := by omega
      have hdn : s.data.toList.drop k = [] := List.drop_eq_nil_of_le (by omega)
      rw [hdn, lns] at hels
      have c2 := hbx.cell
      by_cases hb : b < s.size
      · have hne : (s.data.toList.drop b).take (k - b) ≠ [] := by
          intro e
          have := congrArg List.length e
          rw [List.length_take, List.length_drop, hlen] at this
          simp at this
          omega
        rw [if_neg hne, numd, numd] at hels
        obtain ⟨fn, tmps, assign, body, hy, hR⟩ := hY pre _ _ hJr ⟨_, hels⟩ ⟨_, hit, trivial⟩
        dsimp only [lineV] at hy
        rw [← extract_str, hke, Int.natCast_add, Int.natCast_one] at hy
        subst hke
        gi_wp2
        refine ⟨(fun h => by cases h), hR.mono ?_⟩
        rintro e W4 (⟨rfl, hJ4, hk4⟩ | ⟨rfl, hJx4⟩)
        · gi_wp2
          go_end0
          exact ⟨⟨_, rfl⟩, .inl (by rw [hels]; exact hJ4)⟩
        · gi_wp2
          go_end0
          exact ⟨⟨_, rfl⟩, .inr ⟨_, _, _, hels, hJx4⟩⟩
      · have he : (s.data.toList.drop b).take (k - b) = [] := by
          have : k - b = 0 := by omega
          rw [this]
          rfl
        rw [if_pos he, numd, List.append_nil] at hels
        gi_wp2
        go_end0
        exact ⟨⟨_, rfl⟩, .inl (by rw [hels]; exact hJr)⟩
end Go.Proofs.YtpbebcefnkbnlabDoor
