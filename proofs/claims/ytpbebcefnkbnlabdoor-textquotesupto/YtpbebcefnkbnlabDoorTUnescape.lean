/- What unescape makes of every text; what Unquote answers. -/
import Derived.Test.YtpbebcefnkbnlabDoorTUnquote
namespace Go.Proofs.YtpbebcefnkbnlabDoor
open Go.RowKit

def uneF : Nat → Nat → List UInt8 → List UInt8
  | 0, _, _ => []
  | f + 1, sk, l =>
    if l = [] then []
    else if 0 < sk then uneF f (sk - wd l) (l.drop (wd l))
    else if rv l = 92 then escC l :: uneF f (escN l - wd l) (l.drop (wd l))
    else Lib.encodeRune (raw (rv l)) ++ uneF f 0 (l.drop (wd l))
theorem uneF_nil : ∀ (n sk : Nat), uneF n sk [] = []
  | 0, _ => rfl
  | _ + 1, _ => by simp [uneF]
theorem uneF_fuel : ∀ (n m sk : Nat) (l : List UInt8), l.length ≤ n → l.length ≤ m → uneF n sk l = uneF m sk l
  | 0, m, sk, l, hn, _ => by
    have : l = [] := List.eq_nil_of_length_eq_zero (by omega)
    subst this
    rw [uneF_nil, uneF_nil]
  | n + 1, 0, sk, l, _, hm => by
    have : l = [] := List.eq_nil_of_length_eq_zero (by omega)
    subst this
    rw [uneF_nil, uneF_nil]
  | n + 1, m + 1, sk, l, hn, hm => by
    by_cases hne : l = []
    · subst hne
      rw [uneF_nil, uneF_nil]
    · have hw := wd_pos l
      have hl : 0 < l.length := List.length_pos_iff.2 hne
      have e : ∀ b, uneF n b (l.drop (wd l)) = uneF m b (l.drop (wd l)) := fun b => uneF_fuel n m _ _ (by rw [List.length_drop]; omega) (by rw [List.length_drop]; omega)
      simp only [uneF, if_neg hne, e]
def une (sk : Nat) (l : List UInt8) : List UInt8 := uneF l.length sk l
theorem une_nil (sk : Nat) : une sk [] = [] := rfl
theorem une_step (sk : Nat) (l : List UInt8) (h : l ≠ []) :
    une sk l = if 0 < sk then une (sk - wd l) (l.drop (wd l)) else if rv l = 92 then escC l :: une (escN l - wd l) (l.drop (wd l)) else Lib.encodeRune (raw (rv l)) ++ une 0 (l.drop (wd l)) := by
  have hw := wd_pos l
  have hl : 0 < l.length := List.length_pos_iff.2 h
  unfold une
  obtain ⟨n, hn⟩ : ∃ n, l.length = n + 1 := ⟨l.length - 1, by omega⟩
  rw [hn]
  have e : ∀ b, uneF n b (l.drop (wd l)) = uneF (l.drop (wd l)).length b (l.drop (wd l)) := fun b => uneF_fuel n _ _ _ (by rw [List.length_drop]; omega) (Nat.le_refl _)
  simp only [uneF, if_neg h, e]
theorem escN_le (l : List UInt8) : 1 ≤ escN l ∧ escN l ≤ 4 := by
  unfold escN
  split
  · omega
  · split
    · omega
    · split <;> omega
theorem une_len : ∀ (l : List UInt8) (sk : Nat), (une sk l).length ≤ 4 * l.length := by
  refine ru_ind (fun _ => by simp [une_nil]) ?_
  intro l hl ih sk
  have := wd_pos l
  have hw := wd_le l hl
  have hp : 0 < l.length := List.length_pos_iff.2 hl
  have h4 := enc_le (raw (rv l))
  rw [une_step _ _ hl]
  split
  · have := ih (sk - wd l)
    rw [List.length_drop] at this
    omega
  · split
    · have := ih (escN l - wd l)
      rw [List.length_drop] at this
      rw [List.length_cons]
      omega
    · have := ih 0
      rw [List.length_drop] at this
      rw [List.length_append]
      omega
theorem raw_dec (s : ByteArray) (k : Nat) : raw (rv (s.data.toList.drop k)) = ((Utf8.decode s k).1 : Int) := by
  unfold rv raw
  rw [Lib.decodeL_drop s k]
  split
  · rename_i h
    rw [h.1]
    rfl
  · rw [if_neg (by omega)]
theorem Bld.drewN {b : Nat} {l : List UInt8} {W : World} (h : Bld b l W) (n : Nat) : Bld b l (W.drewN n) := h
theorem below_drewN (w : World) (n : Nat) : Below w.heap.size w (w.drewN n) := ⟨rfl, rfl, rfl, Nat.le_refl _, fun _ _ => rfl⟩

set_option maxRecDepth 100000 in
set_option maxHeartbeats 4000000 in
theorem unescape_k (s : ByteArray) (hs : s.size ≤ 8388608) (w : World) :
    Calls Tryd.prog 38 #[.string s] w fun e w' => e = .returned (.string (str (une 0 s.data.toList))) ∧ Below w.heap.size w w' := by
  have hrg := fun w' => run_range_string (P := Tryd.prog) w' 9 s Tryd.underlying9
  have hlen : s.data.toList.length = s.size := by rw [Array.length_toList]; rfl
  go_enter Tryd.func38, Tryd.ntmps38
  go_wp2
  go_loopw [4, 5, 6, 7, 8] (fun vn _ _ _ _ wr => ∃ (k nx : Nat) (acc : List UInt8), vn = .int .i64 (nx : Int) ∧ k ≤ s.size ∧ nx ≤ k + 4 ∧ acc.length ≤ 4 * k ∧ acc ++ une (nx - k) (s.data.toList.drop k) = une 0 s.data.toList ∧ Bld w.heap.size acc wr ∧ wr.heap[w.heap.size + 1]? = some (.stringIter s k) ∧ Below w.heap.size w wr)
    (fun _ _ _ _ _ wr => s.size - wr.iterPos (w.heap.size + 1))
  case atStart =>
    refine ⟨0, 0, [], rfl, Nat.zero_le _, by omega, by simp, by simp, (Lib.IsBuilderF.of (Lib.fresh_isBuilder 82 5 w)).alloc _, ?_, ((Below.refl _ w).alloc (Nat.le_refl _) _).alloc (by simp) _⟩
    have := World.iter_heap (w.alloc (.cells #[.pointer none, .slice none 0 0] 82)) s 0
    simpa using this
  case round =>
    obtain ⟨k, nx, acc, rfl, hk, hnk, hal, hune, hb, hit, hbel⟩ := hrel
    have hpos : wr.iterPos (w.heap.size + 1) = k := by simp [World.iterPos, hit]
    clear hrg
    by_cases hlt : k < s.size
    · have hnx := fun ty => Lib.run_next_any_at (P := Tryd.prog) wr (w.heap.size + 1) s k ty hit hlt
      rw [wd_dec] at hnx
      have h1 := wd_pos (s.data.toList.drop k)
      have h2 := wd_room s k hlt
      have hit2 := Lib.iterAt_heap wr (w.heap.size + 1) s k (k + wd (s.data.toList.drop k)) hit
      have hbel2 := Lib.below_iterAt hbel (k := w.heap.size + 1) (by omega) s (k + wd (s.data.toList.drop k))
      have hb2 := hb.iterAt hit (k + wd (s.data.toList.drop k))
      have hraw := raw_dec s k
      have hdl : (Utf8.decode s k).1 ≤ 1114111 := by rw [← Lib.decodeL_drop s k]; exact Lib.decodeL_rune _
      have hr92 : rv (s.data.toList.drop k) = 92 ↔ ((Utf8.decode s k).1 : Int) = 92 := by
        rw [← hraw]
        have := rv_lo (s.data.toList.drop k)
        unfold raw
        split <;> omega
      rw [une_step _ _ (drop_ne s k hlt), List.drop_drop] at hune
      have hext : s.extract k s.size = str (s.data.toList.drop k) := by rw [extract_str, List.take_of_length_le (by rw [List.length_drop, hlen]; exact Nat.le_refl _)]
      have hesc := escaped_k (str (s.data.toList.drop k)) (by rw [str_size, List.length_drop, hlen]; omega)
      rw [bytes_str] at hesc
      have hn4 := escN_le (s.data.toList.drop k)
      have hlt1 := hb.lt
      by_cases hsk : k < nx
      · rw [if_pos (by omega)] at hune
        have hki : (k : Int) < (nx : Int) := by omega
        clear hr92 hraw hesc hext
        generalize (Utf8.decode s k).1 = dr at *
        generalize wd (s.data.toList.drop k) = ww at *
        go_wp2
        go_roundw
        case rel =>
          refine ⟨k + ww, nx, acc, rfl, h2, by omega, by omega, ?_, hb2, hit2, hbel2⟩
          rw [← hune]
          congr 2
          omega
        case measure =>
          have hp : (wr.iterAt (w.heap.size + 1) s (k + ww)).iterPos (w.heap.size + 1) = k + ww := by simp only [World.iterPos, hit2]
          rw [hp, hpos]
          omega
      · rw [if_neg (by omega)] at hune
        have hki : ¬ (k : Int) < (nx : Int) := by omega
        by_cases h92 : rv (s.data.toList.drop k) = 92
        · rw [if_pos h92] at hune
          have hw1 : wd (s.data.toList.drop k) = 1 := by
            have hne := drop_ne s k hlt
            cases hc : s.data.toList.drop k with
            | nil => exact absurd hc hne
            | cons c t =>
              rw [hc] at h92
              have := (rv_low_iff c t 92 (by decide)).1 h92
              exact (rv_ascii c t (by omega)).2
          rw [hr92] at h92
          clear hr92 hraw
          generalize wd (s.data.toList.drop k) = ww at *
          subst hw1
          have hd92 : (Utf8.decode s k).1 = 92 := by omega
          rw [hd92] at hnx
          clear h92 hd92 hdl
          generalize escC (s.data.toList.drop k) = ec at *
          generalize escN (s.data.toList.drop k) = en at *
          go_wp2_with (first
            | (go_at_call 56; refine (hesc _).mono ?_; clear hesc; rintro e w1 ⟨rfl, nd, rfl⟩)
            | (go_at_call 41; refine (wByte _ acc _ ec rfl _ (hb2.drewN nd) (by omega)).mono ?_; clear hb2; rintro e w2 ⟨rfl, p1, p2, p3⟩))
          have hit3 := p3.iter (k := w.heap.size + 1) (s := s) (pos := k + 1) hit2 (by omega)
          go_roundw
          case rel =>
            refine ⟨k + 1, k + en, acc ++ [ec], by simp, h2, by omega, by rw [List.length_append]; simp; omega, ?_, p1, hit3, (hbel2.trans ((below_drewN _ nd).mono (by rw [Lib.iterAt_size]; omega))).trans p2⟩
            rw [← hune, List.append_assoc]
            have e : k + en - (k + 1) = en - 1 := by omega
            rw [e]
            rfl
          case measure =>
            have hp : w2.iterPos (w.heap.size + 1) = k + 1 := by simp only [World.iterPos, hit3]
            rw [hp, hpos]
            omega
        · rw [if_neg h92, hraw] at hune
          rw [hr92] at h92
          clear hr92 hraw hesc hext
          generalize (Utf8.decode s k).1 = dr at *
          generalize wd (s.data.toList.drop k) = ww at *
          have hd92 : ((dr : Int) == 92) = false := by simpa using h92
          go_wp2_with (go_at_call 42; refine (wRune _ acc _ (by omega) (by omega) _ hb2 (by omega)).mono ?_; rintro e w2 ⟨⟨_, rfl⟩, p1, p2, p3⟩)
          have hit3 := p3.iter hit2 (by omega)
          have h4 := enc_le (dr : Int)
          go_roundw
          case rel =>
            refine ⟨k + ww, nx, acc ++ Lib.encodeRune dr, rfl, h2, by omega, by rw [List.length_append]; omega, ?_, p1, hit3, hbel2.trans p2⟩
            rw [← hune, List.append_assoc]
            congr 3
            omega
          case measure =>
            have hp : w2.iterPos (w.heap.size + 1) = k + ww := by simp only [World.iterPos, hit3]
            rw [hp, hpos]
            omega
    · have hnx := fun ty => Lib.run_next_end_at (P := Tryd.prog) wr (w.heap.size + 1) s k ty hit hlt
      rw [drop_end s k hlt, une_nil, List.append_nil] at hune
      go_wp2_with (go_at_call 44; refine (wEnd _ acc _ hb).mono ?_; rintro e w2 ⟨rfl, p2⟩)
      go_ret
      refine ⟨?_, hbel.trans p2⟩
      rw [← hune]
      rfl

def unT (l : List UInt8) : List UInt8 := if qt (une 0 (ins l)) = l then une 0 (ins l) else []
def unE (l : List UInt8) : Int := if qt (une 0 (ins l)) = l then 0 else 24
theorem ins_len (l : List UInt8) : (ins l).length ≤ l.length := by
  unfold ins
  split
  · simp
  · rw [List.length_take, List.length_drop]
    omega

set_option maxRecDepth 100000 in
set_option maxHeartbeats 1000000 in
theorem unquote_k (s : ByteArray) (hs : s.size ≤ 2097152) (w : World) :
    Calls Tryd.prog 18 #[.string s] w fun e w' => e = .returned (.tuple #[.string (str (unT s.data.toList)), .int .i64 (unE s.data.toList)]) ∧ Below w.heap.size w w' := by
  have hlen : s.data.toList.length = s.size := by rw [Array.length_toList]; rfl
  have hi := inside_k s (by omega) w
  have hil := ins_len s.data.toList
  have hu := unescape_k (str (ins s.data.toList)) (by rw [str_size]; omega)
  rw [bytes_str] at hu
  have hul := une_len (ins s.data.toList) 0
  have hq := quote_k (str (une 0 (ins s.data.toList))) (by rw [str_size]; omega)
  rw [bytes_str] at hq
  unfold unT unE
  generalize une 0 (ins s.data.toList) = p at *
  generalize ins s.data.toList = i0 at *
  by_cases he : qt p = s.data.toList
  · have hst : str (qt p) = s := by rw [he, str_bytes]
    rw [if_pos he, if_pos he]
    rw [hst] at hq
    clear he hst
    go_enter Tryd.func18, Tryd.ntmps18
    go_wp2_with (first
      | (go_at_call 39; refine hi.mono ?_; rintro e w1 ⟨rfl, rfl⟩)
      | (go_at_call 38; refine (hu _).mono ?_; rintro e w1 ⟨rfl, hb1⟩)
      | (go_at_call 20; refine (hq _).mono ?_; rintro e w2 ⟨rfl, hb2⟩))
    go_ret2
    exact ⟨rfl, hb1.trans (hb2.mono hb1.size)⟩
  · have hst : ((str (qt p)).toList == s.toList) = false := by
      rw [Lib.toList_data, Lib.toList_data, bytes_str]
      simpa using he
    rw [if_neg he, if_neg he]
    clear he
    go_enter Tryd.func18, Tryd.ntmps18
    go_wp2_with (first
      | (go_at_call 39; refine hi.mono ?_; rintro e w1 ⟨rfl, rfl⟩)
      | (go_at_call 38; refine (hu _).mono ?_; rintro e w1 ⟨rfl, hb1⟩)
      | (go_at_call 20; refine (hq _).mono ?_; rintro e w2 ⟨rfl, hb2⟩))
    go_ret2
    exact ⟨rfl, hb1.trans (hb2.mono hb1.size)⟩

def padT (l : List UInt8) (n : Int) : List UInt8 := if n < 0 ∨ 4096 < n then [] else l ++ List.replicate (n - (ru l).length).toNat 32
def padE (n : Int) : Int := if n < 0 ∨ 4096 < n then 23 else 0
theorem cat_str (s : ByteArray) (t : List UInt8) : s ++ str t = str (s.data.toList ++ t) := by
  have : (s ++ str t).data.toList = s.data.toList ++ t := by simp [str]
  rw [← this, str_bytes]
theorem rep32 : ∀ c, Lib.repeatL [32] c = List.replicate c 32
  | 0 => rfl
  | c + 1 => by
    show [32] ++ Lib.repeatL [32] c = List.replicate (c + 1) 32
    rw [rep32 c]
    rfl

set_option maxRecDepth 100000 in
set_option maxHeartbeats 1000000 in
theorem pad_k (s : ByteArray) (hs : s.size ≤ 140737488351232) (n : Int) (w : World) :
    Calls Tryd.prog 22 #[.string s, .int .i64 n] w fun e w' => e = .returned (.tuple #[.string (str (padT s.data.toList n)), .int .i64 (padE n)]) ∧ Below w.heap.size w w' := by
  have hlen : s.data.toList.length = s.size := by rw [Array.length_toList]; rfl
  by_cases h0 : n < 0
  · have e1 : str (padT s.data.toList n) = ⟨#[]⟩ := by unfold padT; rw [if_pos (.inl h0)]; rfl
    have e2 : padE n = 23 := by unfold padE; rw [if_pos (.inl h0)]
    rw [e1, e2]
    go_enter Tryd.func22, Tryd.ntmps22
    go_wp2
    go_ret2
    exact ⟨rfl, Below.refl _ _⟩
  · by_cases h1 : 4096 < n
    · have e1 : str (padT s.data.toList n) = ⟨#[]⟩ := by unfold padT; rw [if_pos (.inr h1)]; rfl
      have e2 : padE n = 23 := by unfold padE; rw [if_pos (.inr h1)]
      rw [e1, e2]
      go_enter Tryd.func22, Tryd.ntmps22
      go_wp2
      go_ret2
      exact ⟨rfl, Below.refl _ _⟩
    · have hw := width_k s (by omega) w
      have hrl := ru_length_le s.data.toList
      have e1 : padT s.data.toList n = s.data.toList ++ List.replicate (n - (ru s.data.toList).length).toNat 32 := by unfold padT; rw [if_neg (by omega)]
      have e2 : padE n = 0 := by unfold padE; rw [if_neg (by omega)]
      rw [e1, e2]
      clear e1 e2
      generalize (ru s.data.toList).length = m at *
      obtain ⟨c, hc⟩ : ∃ c, (n - (m : Int)).toNat = c := ⟨_, rfl⟩
      rw [hc]
      have hcm : max (n - (m : Int)) 0 = (c : Int) := by omega
      have hrp : ∀ w, Calls Tryd.prog 45 #[.string ⟨#[32]⟩, .int .i64 (c : Int)] w fun e w' => e = .returned (.string (str (List.replicate c 32))) ∧ Below w.heap.size w w' := fun w => by
        refine (Tryd.strings_Repeat ⟨#[32]⟩ c w (by omega) (by show 1 * c ≤ _; omega)).mono ?_
        rintro e w' ⟨rfl, hb⟩
        refine ⟨?_, hb⟩
        rw [show (⟨#[32]⟩ : ByteArray).data.toList = [32] from rfl, rep32]
        rfl
      have hsz : (str (List.replicate c (32 : UInt8))).size = c := by rw [str_size, List.length_replicate]
      have hcat : s ++ str (List.replicate c 32) = str (s.data.toList ++ List.replicate c 32) := cat_str s _
      rw [← hcat]
      clear hcat
      generalize str (List.replicate c (32 : UInt8)) = R at *
      go_enter Tryd.func22, Tryd.ntmps22
      go_wp2_with (first
        | (go_at_call 24; refine hw.mono ?_; rintro e w1 ⟨rfl, hb1⟩)
        | (go_at_call 45; refine (hrp _).mono ?_; rintro e w2 ⟨rfl, hb2⟩))
      go_ret2
      exact ⟨rfl, hb1.trans (hb2.mono hb1.size)⟩
end Go.Proofs.YtpbebcefnkbnlabDoor
