/- Numbers, symbols, marks, and cut itself. -/
import Derived.Test.YthpkjehoogodkaaDoorZKName
namespace Go.Proofs.YthpkjehoogodkaaDoor
open Go.RowKit

set_option maxRecDepth 100000 in
set_option maxHeartbeats 2000000 in
theorem numberT_k (s : ByteArray) (hs : s.size ≤ 4294967296) (w : World) (hT : Tabs w) :
    Calls Tryd.prog 36 #[.string s] w (CutR (numC s.data.toList) w) := by
  obtain ⟨W, hW⟩ : ∃ W, w.alloc (.cells ztok 35) = W := ⟨_, rfl⟩
  have bW : Below w.heap.size w W := by rw [← hW]; exact kalloc (Below.refl _ _) _
  have e1 : W.heap[w.heap.size]? = some (.cells ztok 35 (0, 0)) := by rw [← hW]; exact World.alloc_heap_new w _
  have hz : w.heap.size < W.heap.size := (Array.getElem?_eq_some_iff.1 e1).1
  have hle := rowL_le isNm s.data.toList
  have hlen : s.data.toList.length = s.size := by rw [Array.length_toList]; rfl
  rw [hlen] at hle
  have HR := hide (rowName_k s hs W (hT.below bW))
  unfold numC
  generalize rowL isNm s.data.toList = n at *
  obtain ⟨q, hq⟩ : ∃ q, s.extract 0 n = q := ⟨_, rfl⟩
  have hqd : q.data.toList = s.data.toList.take n := by rw [← hq, extract_str, bytes_str]; simp
  have hqs : q.size ≤ s.size := by
    have : q.data.toList.length = q.size := by rw [Array.length_toList]; rfl
    rw [← this, hqd, List.length_take, hlen]
    omega
  have HN := hide (fun w2 (h : Tabs w2) => number_k q (by omega) w2 h)
  rw [← hqd]
  have HT := hide hT
  have HE := hide e1
  have HBW := hide bW
  clear hT e1 bW hqd
  unfold CutR
  generalize numV q.data.toList = v at *
  generalize numE q.data.toList = x at *
  by_cases hc : x = 0
  · subst hc
    rw [if_pos rfl]
    go_enter Tryd.func36, Tryd.ntmps36
    go_wp2_with (first
      | (go_at_call 31; refine HR.out.mono ?_; clear HR; rintro e w2 ⟨rfl, b2⟩; have B2 := hide b2; clear b2)
      | (go_at_call 55; refine (HN.out _ ((HT.out.below HBW.out).below B2.out)).mono ?_; clear HN; rintro e w3 ⟨rfl, b3⟩; have B3 := hide b3; have g3 := (b3.block _ (by have := B2.out.size; omega)).trans ((B2.out.block _ hz).trans HE.out); have x0 := kcells_at g3 0 _ rfl; have x1 := kcells_at g3 1 _ rfl; have x2 := kcells_at g3 2 _ rfl; have x3 := kcells_at g3 3 _ rfl; have x4 := kcells_at g3 4 _ rfl; have x5 := kcells_at g3 5 _ rfl; have q0 := kfrozen_at g3 0; have q1 := kfrozen_at g3 1; have q2 := kfrozen_at g3 2; have q3 := kfrozen_at g3 3; have q4 := kfrozen_at g3 4; have q5 := kfrozen_at g3 5; have G3 := hide g3; clear b3 g3))
    have g := storedT w w3 2 0 0 0 ⟨#[]⟩ v ztok w.heap.size (Nat.le_refl _) (ktrans (ktrans HBW.out B2.out) B3.out) rfl G3.out
    refine bodyPost_ret (results_struct_tmps rfl _ _ w.heap.size _ _ _ _ rfl g.1 Tryd.underlying35 rfl infoTok6) rfl ?_
    exact ⟨rfl, g.2⟩
  · have hx2 : (x != 0) = true := by simpa using hc
    rw [if_neg hc]
    clear hc
    go_enter Tryd.func36, Tryd.ntmps36
    go_wp2_with (first
      | (go_at_call 31; refine HR.out.mono ?_; clear HR; rintro e w2 ⟨rfl, b2⟩; have B2 := hide b2; clear b2)
      | (go_at_call 55; refine (HN.out _ ((HT.out.below HBW.out).below B2.out)).mono ?_; clear HN; rintro e w3 ⟨rfl, b3⟩; have B3 := hide b3; have g3 := (b3.block _ (by have := B2.out.size; omega)).trans ((B2.out.block _ hz).trans HE.out); have x0 := kcells_at g3 0 _ rfl; have x1 := kcells_at g3 1 _ rfl; have x2 := kcells_at g3 2 _ rfl; have x3 := kcells_at g3 3 _ rfl; have x4 := kcells_at g3 4 _ rfl; have x5 := kcells_at g3 5 _ rfl; have q0 := kfrozen_at g3 0; have q1 := kfrozen_at g3 1; have q2 := kfrozen_at g3 2; have q3 := kfrozen_at g3 3; have q4 := kfrozen_at g3 4; have q5 := kfrozen_at g3 5; have G3 := hide g3; clear b3 g3))
    have g := storedT w w3 0 0 0 0 ⟨#[]⟩ 0 ztok w.heap.size (Nat.le_refl _) (ktrans (ktrans HBW.out B2.out) B3.out) rfl G3.out
    refine bodyPost_ret (results_struct_tmps rfl _ _ w.heap.size _ _ _ _ rfl g.1 Tryd.underlying35 rfl infoTok6) rfl ?_
    exact ⟨rfl, g.2⟩

theorem drop_one (s : ByteArray) : (s.extract 1 s.size).data.toList = s.data.toList.drop 1 := by
  rw [extract_str, bytes_str, List.take_of_length_le]
  rw [List.length_drop]
  have : s.data.toList.length = s.size := by rw [Array.length_toList]; rfl
  omega
theorem size_toList (s : ByteArray) : s.data.toList.length = s.size := by rw [Array.length_toList]; rfl
theorem is_lit {q : ByteArray} (l : List UInt8) (h : q.data.toList = l) : (q.toList == l) = true := by
  rw [Lib.toList_data]
  simpa using h
theorem not_lit {q : ByteArray} (l : List UInt8) (h : q.data.toList ≠ l) : (q.toList == l) = false := by
  rw [Lib.toList_data]
  simpa using h

set_option maxRecDepth 100000 in
set_option maxHeartbeats 4000000 in
theorem symbolT_k (s : ByteArray) (hs : s.size ≤ 4294967296) (h0 : 0 < s.size) (w : World) (hT : Tabs w) :
    Calls Tryd.prog 37 #[.string s] w (CutR (symC s.data.toList) w) := by
  obtain ⟨W, hW⟩ : ∃ W, w.alloc (.cells ztok 35) = W := ⟨_, rfl⟩
  have bW : Below w.heap.size w W := by rw [← hW]; exact kalloc (Below.refl _ _) _
  have e1 : W.heap[w.heap.size]? = some (.cells ztok 35 (0, 0)) := by rw [← hW]; exact World.alloc_heap_new w _
  have hz : w.heap.size < W.heap.size := (Array.getElem?_eq_some_iff.1 e1).1
  obtain ⟨d, hd⟩ : ∃ d, s.extract 1 s.size = d := ⟨_, rfl⟩
  have hdd : d.data.toList = s.data.toList.drop 1 := by rw [← hd]; exact drop_one s
  have hds : d.size ≤ s.size := by
    rw [← size_toList d, hdd, List.length_drop, size_toList]
    omega
  have HR := hide (rowLetter_k d (by omega) W (hT.below bW))
  have HN := hide (fun w2 (h : Tabs w2) => nameT_k d (by omega) w2 h)
  unfold symC
  rw [← hdd]
  have hno := nameC_no d.data.toList
  have hsz : (nameC d.data.toList).size ≤ d.size := by
    unfold nameC
    split
    · have := rowL_le isNm d.data.toList
      rw [size_toList] at this
      exact this
    · exact Nat.zero_le _
  clear hdd
  generalize rowL isLetter d.data.toList = n at *
  generalize nameC d.data.toList = C at *
  have HT := hide hT
  have HE := hide e1
  have HBW := hide bW
  clear hT e1 bW
  unfold CutR at HN ⊢
  by_cases hn : n = 0
  · subst hn
    rw [if_pos rfl]
    clear HN hno
    go_enter Tryd.func37, Tryd.ntmps37
    go_wp2_with (go_at_call 31; refine HR.out.mono ?_; clear HR; rintro e w2 ⟨rfl, b2⟩; have B2 := hide b2; clear b2; have g3 := (B2.out.block _ hz).trans HE.out; have x0 := kcells_at g3 0 _ rfl; have x1 := kcells_at g3 1 _ rfl; have x2 := kcells_at g3 2 _ rfl; have x3 := kcells_at g3 3 _ rfl; have x4 := kcells_at g3 4 _ rfl; have x5 := kcells_at g3 5 _ rfl; have q0 := kfrozen_at g3 0; have q1 := kfrozen_at g3 1; have q2 := kfrozen_at g3 2; have q3 := kfrozen_at g3 3; have q4 := kfrozen_at g3 4; have q5 := kfrozen_at g3 5; have G3 := hide g3; clear g3)
    have g := storedT w w2 0 0 0 0 ⟨#[]⟩ 0 ztok w.heap.size (Nat.le_refl _) (ktrans HBW.out B2.out) rfl G3.out
    refine bodyPost_ret (results_struct_tmps rfl _ _ w.heap.size _ _ _ _ rfl g.1 Tryd.underlying35 rfl infoTok6) rfl ?_
    exact ⟨rfl, g.2⟩
  · rw [if_neg hn]
    have hn2 : ((n : Int) == 0) = false := by simpa using hn
    clear hn
    obtain ⟨⟨k, t, i⟩, m, c⟩ := C
    dsimp only at HN hno hsz ⊢
    by_cases hc : c = 0
    · subst hc
      clear hno
      obtain ⟨q, hq⟩ : ∃ q, str t = q := ⟨_, rfl⟩
      have hqt : q.data.toList = t := by rw [← hq, bytes_str]
      rw [hq] at HN
      clear hq
      by_cases ht1 : t = [116, 114, 117, 101]
      · have n1 : (q.toList == [116, 114, 117, 101]) = true := is_lit _ (hqt.trans ht1)
        have n1' : (q.toList == (⟨#[116, 114, 117, 101]⟩ : ByteArray).toList) = true := by rw [Lib.toList_data ⟨#[116, 114, 117, 101]⟩]; exact n1
        rw [if_neg (by rw [ht1]; decide)]
        clear hqt ht1
        go_enter Tryd.func37, Tryd.ntmps37
        go_wp2_with (first
          | (go_at_call 31; refine HR.out.mono ?_; clear HR; rintro e w2 ⟨rfl, b2⟩; have B2 := hide b2; clear b2)
          | (go_at_call 34; refine (HN.out _ ((HT.out.below HBW.out).below B2.out)).mono ?_; clear HN; rintro e w3 ⟨rfl, b3⟩; have B3 := hide b3; have z3 : w.heap.size < w3.heap.size := (by (have := B2.out.size; have := b3.size; omega)); have g0 := (b3.block _ (by have := B2.out.size; omega)).trans ((B2.out.block _ hz).trans HE.out); obtain ⟨W3, hW3⟩ : ∃ W3, w3.alloc (.cells (tcells k 0 0 0 q i) 35) = W3 := ⟨_, rfl⟩; have g3 : W3.heap[w.heap.size]? = some (.cells ztok 35 (0, 0)) := (by rw [← hW3, Below.heap_alloc _ _ _ z3]; exact g0); have y4 : W3.cell? ⟨w3.heap.size, 4, none⟩ = some (.string q) := (by rw [← hW3]; exact kcells_at (World.alloc_heap_new w3 _) 4 _ rfl); have B4 := hide (kalloc (ktrans (ktrans HBW.out B2.out) b3) (.cells (tcells k 0 0 0 q i) 35)); rw [hW3] at B4; have x0 := kcells_at g3 0 _ rfl; have x1 := kcells_at g3 1 _ rfl; have x2 := kcells_at g3 2 _ rfl; have x3 := kcells_at g3 3 _ rfl; have x4 := kcells_at g3 4 _ rfl; have x5 := kcells_at g3 5 _ rfl; have q0 := kfrozen_at g3 0; have q1 := kfrozen_at g3 1; have q2 := kfrozen_at g3 2; have q3 := kfrozen_at g3 3; have q4 := kfrozen_at g3 4; have q5 := kfrozen_at g3 5; have G3 := hide g3; clear b3 g0 g3))
        have g := storedT w W3 0 0 0 0 ⟨#[]⟩ 0 ztok w.heap.size (Nat.le_refl _) B4.out rfl G3.out
        refine bodyPost_ret (results_struct_tmps rfl _ _ w.heap.size _ _ _ _ rfl g.1 Tryd.underlying35 rfl infoTok6) rfl ?_
        exact ⟨rfl, g.2⟩
      · have n1 : (q.toList == [116, 114, 117, 101]) = false := not_lit _ (by rw [hqt]; exact ht1)
        have n1' : (q.toList == (⟨#[116, 114, 117, 101]⟩ : ByteArray).toList) = false := by rw [Lib.toList_data ⟨#[116, 114, 117, 101]⟩]; exact n1
        by_cases ht2 : t = [102, 97, 108, 115, 101]
        · have n2 : (q.toList == [102, 97, 108, 115, 101]) = true := is_lit _ (hqt.trans ht2)
          have n2' : (q.toList == (⟨#[102, 97, 108, 115, 101]⟩ : ByteArray).toList) = true := by rw [Lib.toList_data ⟨#[102, 97, 108, 115, 101]⟩]; exact n2
          rw [if_neg (by rw [ht2]; decide)]
          clear hqt ht1 ht2
          go_enter Tryd.func37, Tryd.ntmps37
          go_wp2_with (first
            | (go_at_call 31; refine HR.out.mono ?_; clear HR; rintro e w2 ⟨rfl, b2⟩; have B2 := hide b2; clear b2)
            | (go_at_call 34; refine (HN.out _ ((HT.out.below HBW.out).below B2.out)).mono ?_; clear HN; rintro e w3 ⟨rfl, b3⟩; have B3 := hide b3; have z3 : w.heap.size < w3.heap.size := (by (have := B2.out.size; have := b3.size; omega)); have g0 := (b3.block _ (by have := B2.out.size; omega)).trans ((B2.out.block _ hz).trans HE.out); obtain ⟨W3, hW3⟩ : ∃ W3, w3.alloc (.cells (tcells k 0 0 0 q i) 35) = W3 := ⟨_, rfl⟩; have g3 : W3.heap[w.heap.size]? = some (.cells ztok 35 (0, 0)) := (by rw [← hW3, Below.heap_alloc _ _ _ z3]; exact g0); have y4 : W3.cell? ⟨w3.heap.size, 4, none⟩ = some (.string q) := (by rw [← hW3]; exact kcells_at (World.alloc_heap_new w3 _) 4 _ rfl); have B4 := hide (kalloc (ktrans (ktrans HBW.out B2.out) b3) (.cells (tcells k 0 0 0 q i) 35)); rw [hW3] at B4; have x0 := kcells_at g3 0 _ rfl; have x1 := kcells_at g3 1 _ rfl; have x2 := kcells_at g3 2 _ rfl; have x3 := kcells_at g3 3 _ rfl; have x4 := kcells_at g3 4 _ rfl; have x5 := kcells_at g3 5 _ rfl; have q0 := kfrozen_at g3 0; have q1 := kfrozen_at g3 1; have q2 := kfrozen_at g3 2; have q3 := kfrozen_at g3 3; have q4 := kfrozen_at g3 4; have q5 := kfrozen_at g3 5; have G3 := hide g3; clear b3 g0 g3))
          have g := storedT w W3 0 0 0 0 ⟨#[]⟩ 0 ztok w.heap.size (Nat.le_refl _) B4.out rfl G3.out
          refine bodyPost_ret (results_struct_tmps rfl _ _ w.heap.size _ _ _ _ rfl g.1 Tryd.underlying35 rfl infoTok6) rfl ?_
          exact ⟨rfl, g.2⟩
        · have n2 : (q.toList == [102, 97, 108, 115, 101]) = false := not_lit _ (by rw [hqt]; exact ht2)
          have n2' : (q.toList == (⟨#[102, 97, 108, 115, 101]⟩ : ByteArray).toList) = false := by rw [Lib.toList_data ⟨#[102, 97, 108, 115, 101]⟩]; exact n2
          have hit : isTruth t = false := by
            unfold isTruth
            have a1 : (t == [116, 114, 117, 101]) = false := by simpa using ht1
            have a2 : (t == [102, 97, 108, 115, 101]) = false := by simpa using ht2
            rw [a1, a2]
            rfl
          rw [if_pos ⟨rfl, hit⟩]
          have hqq : str t = q := by rw [← hqt, str_bytes]
          dsimp only
          rw [hqq]
          clear hqt ht1 ht2 hit hqq
          have hmm : ((1 + m : Nat) : Int) = 1 + (m : Int) := by omega
          have hwr : wrap64 (1 + (m : Int)) = 1 + (m : Int) := by simp only [wrap64]; omega
          rw [hmm]
          go_enter Tryd.func37, Tryd.ntmps37
          go_wp2_with (first
            | (go_at_call 31; refine HR.out.mono ?_; clear HR; rintro e w2 ⟨rfl, b2⟩; have B2 := hide b2; clear b2)
            | (go_at_call 34; refine (HN.out _ ((HT.out.below HBW.out).below B2.out)).mono ?_; clear HN; rintro e w3 ⟨rfl, b3⟩; have B3 := hide b3; have z3 : w.heap.size < w3.heap.size := (by (have := B2.out.size; have := b3.size; omega)); have g0 := (b3.block _ (by have := B2.out.size; omega)).trans ((B2.out.block _ hz).trans HE.out); obtain ⟨W3, hW3⟩ : ∃ W3, w3.alloc (.cells (tcells k 0 0 0 q i) 35) = W3 := ⟨_, rfl⟩; have g3 : W3.heap[w.heap.size]? = some (.cells ztok 35 (0, 0)) := (by rw [← hW3, Below.heap_alloc _ _ _ z3]; exact g0); have y4 : W3.cell? ⟨w3.heap.size, 4, none⟩ = some (.string q) := (by rw [← hW3]; exact kcells_at (World.alloc_heap_new w3 _) 4 _ rfl); have B4 := hide (kalloc (ktrans (ktrans HBW.out B2.out) b3) (.cells (tcells k 0 0 0 q i) 35)); rw [hW3] at B4; have x0 := kcells_at g3 0 _ rfl; have x1 := kcells_at g3 1 _ rfl; have x2 := kcells_at g3 2 _ rfl; have x3 := kcells_at g3 3 _ rfl; have x4 := kcells_at g3 4 _ rfl; have x5 := kcells_at g3 5 _ rfl; have q0 := kfrozen_at g3 0; have q1 := kfrozen_at g3 1; have q2 := kfrozen_at g3 2; have q3 := kfrozen_at g3 3; have q4 := kfrozen_at g3 4; have q5 := kfrozen_at g3 5; have G3 := hide g3; clear b3 g0 g3))
          have g := storedT w W3 3 0 0 0 q 0 ztok w.heap.size (Nat.le_refl _) B4.out rfl G3.out
          refine bodyPost_ret (results_struct_tmps rfl _ _ w.heap.size _ _ _ _ rfl g.1 Tryd.underlying35 rfl infoTok6) rfl ?_
          exact ⟨rfl, g.2⟩
    · rw [if_neg (fun h => hc h.1)]
      have hc2 : (c != 0) = true := by simpa using hc
      clear hno hc
      obtain ⟨q, hq⟩ : ∃ q, str t = q := ⟨_, rfl⟩
      rw [hq] at HN
      clear hq
      go_enter Tryd.func37, Tryd.ntmps37
      go_wp2_with (first
        | (go_at_call 31; refine HR.out.mono ?_; clear HR; rintro e w2 ⟨rfl, b2⟩; have B2 := hide b2; clear b2)
        | (go_at_call 34; refine (HN.out _ ((HT.out.below HBW.out).below B2.out)).mono ?_; clear HN; rintro e w3 ⟨rfl, b3⟩; have B3 := hide b3; have z3 : w.heap.size < w3.heap.size := (by (have := B2.out.size; have := b3.size; omega)); have g0 := (b3.block _ (by have := B2.out.size; omega)).trans ((B2.out.block _ hz).trans HE.out); obtain ⟨W3, hW3⟩ : ∃ W3, w3.alloc (.cells (tcells k 0 0 0 q i) 35) = W3 := ⟨_, rfl⟩; have g3 : W3.heap[w.heap.size]? = some (.cells ztok 35 (0, 0)) := (by rw [← hW3, Below.heap_alloc _ _ _ z3]; exact g0); have y4 : W3.cell? ⟨w3.heap.size, 4, none⟩ = some (.string q) := (by rw [← hW3]; exact kcells_at (World.alloc_heap_new w3 _) 4 _ rfl); have B4 := hide (kalloc (ktrans (ktrans HBW.out B2.out) b3) (.cells (tcells k 0 0 0 q i) 35)); rw [hW3] at B4; have x0 := kcells_at g3 0 _ rfl; have x1 := kcells_at g3 1 _ rfl; have x2 := kcells_at g3 2 _ rfl; have x3 := kcells_at g3 3 _ rfl; have x4 := kcells_at g3 4 _ rfl; have x5 := kcells_at g3 5 _ rfl; have q0 := kfrozen_at g3 0; have q1 := kfrozen_at g3 1; have q2 := kfrozen_at g3 2; have q3 := kfrozen_at g3 3; have q4 := kfrozen_at g3 4; have q5 := kfrozen_at g3 5; have G3 := hide g3; clear b3 g0 g3))
      have g := storedT w W3 0 0 0 0 ⟨#[]⟩ 0 ztok w.heap.size (Nat.le_refl _) B4.out rfl G3.out
      refine bodyPost_ret (results_struct_tmps rfl _ _ w.heap.size _ _ _ _ rfl g.1 Tryd.underlying35 rfl infoTok6) rfl ?_
      exact ⟨rfl, g.2⟩

end Go.Proofs.YthpkjehoogodkaaDoor
