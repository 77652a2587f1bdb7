/- What written and Spell answer of every token. -/
import Derived.Test.YthpkjehoogodkaaDoorZKScan
import Derived.Test.YthpkjehoogodkaaDoorGRefW
namespace Go.Proofs.YthpkjehoogodkaaDoor
open Go.RowKit

/-- A token as it lies in memory. -/
structure Tq where
  k : Int
  o : Int
  l : Int
  c : Int
  t : ByteArray
  i : Int
def Tq.tk (x : Tq) : Tkn := ⟨x.k, x.t.data.toList, x.i⟩
structure Tq.ok (x : Tq) : Prop where
  lo : -9223372036854775808 ≤ x.i
  hi : x.i ≤ 9223372036854775807
  t : x.t.size ≤ 1048576
/-- A token's text, be it one that Scan can give or not. -/
def wrT (t : Tkn) : List UInt8 := if t.kind = 1 ∨ t.kind = 4 then t.text else if t.kind = 2 then Lib.itoa t.int else if t.kind = 3 then 35 :: t.text else []
def tkEq (a b : Tkn) : Bool := a.kind == b.kind && (a.text == b.text && a.int == b.int)
theorem tkEq_yes {a b : Tkn} (h : tkEq a b = true) : a = b := by
  obtain ⟨k, t, i⟩ := a
  obtain ⟨k', t', i'⟩ := b
  unfold tkEq at h
  simp at h
  obtain ⟨rfl, rfl, rfl⟩ := h
  rfl
theorem tkEq_self (a : Tkn) : tkEq a a = true := by unfold tkEq; simp
/-- Can Scan give this token? -/
def spOK (t : Tkn) : Bool := tkEq (cutC (wrT t)).tk t

theorem tokNe (k o l c : Int) (q : ByteArray) (i k' o' l' c' : Int) (q' : ByteArray) (i' : Int) (w : World) : (binOp BinOp.neq 35 (.agg (tcells k o l c q i)) (.agg (tcells k' o' l' c' q' i'))).run Tryd.prog w = .ok (.bool (!(k == k' && (o == o' && (l == l' && (c == c' && (q.toList == q'.toList && i == i'))))))) w := by
  simp [go_sem]
  by_cases h1 : k = k'
  · by_cases h2 : o = o'
    · by_cases h3 : l = l'
      · by_cases h4 : c = c'
        · by_cases h5 : q.toList = q'.toList
          · by_cases h6 : i = i'
            · simp [h1, h2, h3, h4, h5, h6]
            · simp [h1, h2, h3, h4, h5, h6]
          · simp [h1, h2, h3, h4, h5]
        · simp [h1, h2, h3, h4]
      · simp [h1, h2, h3]
    · simp [h1, h2]
  · simp [h1]
theorem str_app (a b : ByteArray) : a ++ b = str (a.data.toList ++ b.data.toList) := by
  rw [← str_bytes (a ++ b)]
  congr 1

set_option maxRecDepth 100000 in
set_option maxHeartbeats 2000000 in
theorem written_k (x : Tq) (hx : x.ok) (w : World) (hT : Tabs w) :
    Calls Tryd.prog 23 #[.agg (tcells x.k x.o x.l x.c x.t x.i)] w fun e w' => e = .returned (.string (str (wrT x.tk))) ∧ Below w.heap.size w w' := by
  obtain ⟨k, o, l, c, t, i⟩ := x
  obtain ⟨h0, h1, htz⟩ := hx
  dsimp only at h0 h1 htz ⊢
  unfold Tq.tk wrT
  dsimp only
  have HD := hide (fun w (h : Tabs w) => decimal_k i h0 h1 w h)
  have HT := hide hT
  clear hT h0 h1
  by_cases k1 : k = 1
  · subst k1
    rw [if_pos (.inl rfl), str_bytes]
    go_enter Tryd.func23, Tryd.ntmps23
    go_wp2
    go_ret
    exact ⟨rfl, kalloc (Below.refl _ _) _⟩
  by_cases k4 : k = 4
  · subst k4
    rw [if_pos (.inr rfl), str_bytes]
    go_enter Tryd.func23, Tryd.ntmps23
    go_wp2
    go_ret
    exact ⟨rfl, kalloc (Below.refl _ _) _⟩
  rw [if_neg (fun h => h.elim k1 k4)]
  have e1 : (k == 1) = false := by simpa using k1
  have e4 : (k == 4) = false := by simpa using k4
  by_cases k2 : k = 2
  · subst k2
    rw [if_pos rfl]
    clear k1 k4 e1 e4
    go_enter Tryd.func23, Tryd.ntmps23
    go_wp2_with (go_at_call 48; refine (HD.out _ (HT.out.below ((Below.refl _ w).alloc (Nat.le_refl _) _))).mono ?_; clear HD; rintro e w2 ⟨rfl, b2⟩; have B2 := hide b2; clear b2)
    go_ret
    exact ⟨rfl, ktrans (kalloc (Below.refl _ _) _) B2.out⟩
  rw [if_neg k2]
  have e2 : (k == 2) = false := by simpa using k2
  by_cases k3 : k = 3
  · subst k3
    rw [if_pos rfl]
    have ha : str (35 :: t.data.toList) = (⟨#[35]⟩ : ByteArray) ++ t := by rw [str_app]; rfl
    have hq := ha.symm
    generalize str (35 :: t.data.toList) = q at *
    clear k1 k4 e1 e4 k2 e2 ha
    go_enter Tryd.func23, Tryd.ntmps23
    go_wp2
    go_ret
    exact ⟨rfl, kalloc (Below.refl _ _) _⟩
  rw [if_neg k3]
  have e3 : (k == 3) = false := by simpa using k3
  clear k1 k2 k3 k4
  go_enter Tryd.func23, Tryd.ntmps23
  go_wp2
  go_ret
  exact ⟨rfl, kalloc (Below.refl _ _) _⟩

theorem dec_len20 (m : Int) (h0 : -9223372036854775808 ≤ m) (h1 : m ≤ 9223372036854775807) : (Lib.itoa m).length ≤ 20 := by
  have h := (itoa_shape m h0 h1).2.1
  have : nOff (Lib.itoa m) ≤ 1 := by unfold nOff; split <;> omega
  omega
theorem wrT_len (x : Tq) (hx : x.ok) : (wrT x.tk).length ≤ x.t.size + 20 := by
  unfold wrT Tq.tk
  dsimp only
  split
  · rw [size_toList]; omega
  · split
    · have := dec_len20 x.i hx.lo hx.hi
      omega
    · split
      · rw [List.length_cons, size_toList]; omega
      · simp

set_option maxRecDepth 100000 in
set_option maxHeartbeats 2000000 in
theorem spell_k (x : Tq) (hx : x.ok) (w : World) (hT : KT w) :
    Calls Tryd.prog 11 #[.agg (tcells x.k x.o x.l x.c x.t x.i)] w fun e w' => e = .returned (.tuple #[.string (bif spOK x.tk then str (wrT x.tk) else ⟨#[]⟩), .int .i64 (bif spOK x.tk then 0 else 2)]) ∧ Below w.heap.size w w' := by
  have hlen := wrT_len x hx
  have hxt := hx.t
  obtain ⟨W, hW⟩ : ∃ W, w.alloc (.cells (tcells x.k 0 0 0 x.t x.i) 35) = W := ⟨_, rfl⟩
  have bW : Below w.heap.size w W := by rw [← hW]; exact kalloc (Below.refl _ _) _
  have e1 : W.heap[w.heap.size]? = some (.cells (tcells x.k 0 0 0 x.t x.i) 35 (0, 0)) := by rw [← hW]; exact World.alloc_heap_new w _
  have hz : w.heap.size < W.heap.size := (Array.getElem?_eq_some_iff.1 e1).1
  have x0 := kcells_at e1 0 _ rfl
  have x1 := kcells_at e1 1 _ rfl
  have x2 := kcells_at e1 2 _ rfl
  have x3 := kcells_at e1 3 _ rfl
  have x4 := kcells_at e1 4 _ rfl
  have x5 := kcells_at e1 5 _ rfl
  have HW := hide (written_k ⟨x.k, 0, 0, 0, x.t, x.i⟩ ⟨hx.lo, hx.hi, hx.t⟩ W (hT.below bW).tabs)
  have etk : (⟨x.k, 0, 0, 0, x.t, x.i⟩ : Tq).tk = x.tk := rfl
  rw [etk] at HW
  dsimp only at HW
  obtain ⟨s, hs⟩ : ∃ s, str (wrT x.tk) = s := ⟨_, rfl⟩
  have hsd : s.data.toList = wrT x.tk := by rw [← hs, bytes_str]
  have hss : s.size ≤ 4294967296 := by rw [← size_toList s, hsd]; omega
  have HC := hide (fun w (h : KT w) => cut_k s hss w h)
  rw [hsd] at HC
  unfold CutR at HC
  have hsp : spOK x.tk = tkEq (cutC (wrT x.tk)).tk x.tk := rfl
  rw [hs] at HW ⊢
  generalize cutC (wrT x.tk) = C at *
  obtain ⟨⟨ck, ct, ci⟩, cn, cc⟩ := C
  dsimp only at HC
  obtain ⟨q, hq⟩ : ∃ q, str ct = q := ⟨_, rfl⟩
  rw [hq] at HC
  have hqd : q.data.toList = ct := by rw [← hq, bytes_str]
  have hne : ∀ w, (binOp BinOp.neq 35 (.agg (tcells ck 0 0 0 q ci)) (.agg (tcells x.k 0 0 0 x.t x.i))).run Tryd.prog w = .ok (.bool (!(spOK x.tk))) w := fun w => by
    rw [tokNe, hsp]
    unfold tkEq Tq.tk
    dsimp only
    rw [Lib.toList_data, Lib.toList_data, hqd]
    simp
  have HT := hide (hT.below bW)
  have HE := hide e1
  have HBW := hide bW
  clear hsp hq hqd hsd hs hss hlen hT e1 bW hx
  obtain ⟨k, o, l, c, t, i⟩ := x
  dsimp only at *
  generalize spOK (Tq.tk ⟨k, o, l, c, t, i⟩) = b at *
  cases b
  all_goals
    simp only [Bool.not_true, Bool.not_false, cond_true, cond_false] at hne ⊢
    go_enter Tryd.func11, Tryd.ntmps11
    go_wp2_with (first
      | (go_at_call 23; refine HW.out.mono ?_; clear HW; rintro e w2 ⟨rfl, b2⟩; have B2 := hide b2; clear b2)
      | (go_at_call 17; refine (HC.out _ (KT.below HT.out B2.out)).mono ?_; clear HC; rintro e w3 ⟨rfl, b3⟩; have g3 := (b3.block _ (by have := B2.out.size; omega)).trans ((B2.out.block _ hz).trans HE.out); have z3 : w.heap.size < w3.heap.size := (by (have := B2.out.size; have := b3.size; omega)); obtain ⟨W4, hW4⟩ : ∃ W4, w3.alloc (.cells (tcells ck 0 0 0 q ci) 35) = W4 := ⟨_, rfl⟩; have g4 : W4.heap[w.heap.size]? = some (.cells (tcells k 0 0 0 t i) 35 (0, 0)) := (by rw [← hW4, Below.heap_alloc _ _ _ z3]; exact g3); have g5 : W4.heap[w3.heap.size]? = some (.cells (tcells ck 0 0 0 q ci) 35 (0, 0)) := (by rw [← hW4]; exact World.alloc_heap_new w3 _); have y0 := kcells_at g4 0 _ rfl; have y1 := kcells_at g4 1 _ rfl; have y2 := kcells_at g4 2 _ rfl; have y3 := kcells_at g4 3 _ rfl; have y4 := kcells_at g4 4 _ rfl; have y5 := kcells_at g4 5 _ rfl; have z0 := kcells_at g5 0 _ rfl; have z1 := kcells_at g5 1 _ rfl; have z2 := kcells_at g5 2 _ rfl; have z3 := kcells_at g5 3 _ rfl; have z4 := kcells_at g5 4 _ rfl; have z5 := kcells_at g5 5 _ rfl; have B4 := hide (kalloc (ktrans (ktrans HBW.out B2.out) b3) (.cells (tcells ck 0 0 0 q ci) 35)); rw [hW4] at B4; clear b3 g3 g4 g5))
    go_ret2
    exact ⟨rfl, B4.out⟩
end Go.Proofs.YthpkjehoogodkaaDoor
