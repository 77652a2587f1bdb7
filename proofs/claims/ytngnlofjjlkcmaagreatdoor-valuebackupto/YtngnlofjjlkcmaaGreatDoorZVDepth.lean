/- depth and Deep. -/
import Derived.Test.YtngnlofjjlkcmaaGreatDoorGVCC
namespace Go.Proofs.YtngnlofjjlkcmaaGreatDoor
open Go.RowKit

/-- The greatest of what f says of them, and of d. -/
def maxL (f : Vl → Nat) : List Vl → Nat → Nat
  | [], d => d
  | v :: l, d => maxL f l (max d (f v))
def depF : Nat → Vl → Nat
  | 0, _ => 0
  | n + 1, v => maxL (depF n) v.items 0 + 1
def depV (v : Vl) : Nat := depF v.size v
theorem maxL_congr {f g : Vl → Nat} : ∀ {l : List Vl} {d : Nat}, (∀ x ∈ l, f x = g x) → maxL f l d = maxL g l d
  | [], _, _ => rfl
  | x :: l, d, h => by rw [maxL, maxL, h x (by simp), maxL_congr fun y hy => h y (by simp [hy])]
theorem depF_more (n : Nat) : ∀ (m : Nat) (v : Vl), v.size ≤ n → n ≤ m → depF m v = depF n v := by
  induction n with
  | zero => intro m v h _; have := v.size_pos; omega
  | succ n ih =>
    intro m v h hm
    cases m with
    | zero => omega
    | succ m => rw [depF, depF, maxL_congr fun x hx => ih m x (by have := Vl.size_item hx; omega) (by omega)]
theorem depV_eq (v : Vl) : depV v = maxL depV v.items 0 + 1 := by
  have h0 := v.size_pos
  unfold depV
  obtain ⟨n, hn⟩ : ∃ n, v.size = n + 1 := ⟨v.size - 1, by omega⟩
  rw [hn, depF, maxL_congr (g := depV) fun x hx => depF_more x.size n x (Nat.le_refl _) (by have := Vl.size_item hx; omega)]
  rfl
theorem maxL_snoc (f : Vl → Nat) : ∀ (l : List Vl) (d : Nat) (x : Vl), maxL f (l ++ [x]) d = max (maxL f l d) (f x)
  | [], _, _ => rfl
  | v :: l, d, x => by rw [List.cons_append, maxL, maxL, maxL_snoc f l]
theorem maxL_take (f : Vl → Nat) (l : List Vl) (k : Nat) (hk : k < l.length) : maxL f (l.take (k + 1)) 0 = max (maxL f (l.take k) 0) (f l[k]) := by
  rw [List.take_succ_eq_append_getElem hk, maxL_snoc]
theorem depV_size (v : Vl) : depV v ≤ v.size := by
  have h : ∀ n (v : Vl), v.size ≤ n → depV v ≤ v.size := by
    intro n
    induction n with
    | zero => intro v h; have := v.size_pos; omega
    | succ n ih =>
      intro v h
      have hl : ∀ (l : List Vl) (d : Nat), (∀ x ∈ l, depV x ≤ x.size) → maxL depV l d ≤ max d (l.map Vl.size).sum := by
        intro l
        induction l with
        | nil => intro d _; rw [maxL]; omega
        | cons x l il =>
          intro d hx
          have h1 := il (max d (depV x)) fun y hy => hx y (by simp [hy])
          have h2 := hx x (by simp)
          rw [maxL, List.map_cons, List.sum_cons]
          omega
      have := hl v.items 0 fun x hx => ih x (by have := Vl.size_item hx; omega)
      rw [depV_eq, Vl.size_eq v]
      omega
  exact h _ v (Nat.le_refl _)
def DepthC (n : Nat) : Prop := ∀ (v : Vl) (w : World) (B : Nat) (sl : Value), v.size ≤ 1000000000 → B ≤ w.heap.size → ItemsAt w B n sl v.items →
  Calls Tryz.prog 43 #[.agg (vcells v sl)] w fun e w' => e = .returned (.int .i64 (depV v : Int)) ∧ Below w.heap.size w w'
set_option maxRecDepth 100000 in
set_option maxHeartbeats 1000000 in
theorem depth_step {n : Nat} (hD : DepthC n) : DepthC (n + 1) := by
  intro v w B sl hv hB hi
  have HI := hide hi
  obtain ⟨a, c, rfl, hla⟩ := hi.len
  unfold maxLen at hla
  have HD := hide hD
  have HE := hide (depV_eq v)
  have HSZ := hide (fun (x : Vl) (hx : x ∈ v.items) => (show x.size ≤ 1000000000 from by have := Vl.size_item hx; omega))
  obtain ⟨W, hW⟩ : ∃ W, w.alloc (.cells (vcells v (.slice a v.items.length c)) 26) = W := ⟨_, rfl⟩
  have bW : Below w.heap.size w W := by rw [← hW]; exact alloc_v (Below.refl _ _) _
  have e1 : W.heap[w.heap.size]? = some (.cells (vcells v (.slice a v.items.length c)) 26 (0, 0)) := by rw [← hW]; exact World.alloc_heap_new w _
  have x4 := cells_at e1 4 _ rfl
  have HV := hide (HI.out.below (bW.mono hB))
  have hBW : B ≤ W.heap.size := by have := bW.size; omega
  clear hi hD e1 hv
  go_enter Tryz.func43, Tryz.ntmps43
  go_wp2
  clear hW x4
  go_loopw [3, 9] (fun d i wr => ∃ k t : Nat, k ≤ v.items.length ∧ t ≤ 1000000000 ∧ d = .int .i64 (t : Int) ∧ i = .int .i64 k ∧ maxL depV (v.items.take k) 0 = t ∧ Below W.heap.size W wr) (fun _ i _ => v.items.length - (intOf i).toNat)
  case atStart => exact ⟨0, 0, Nat.zero_le _, by omega, rfl, rfl, rfl, Below.refl _ _⟩
  case round =>
    obtain ⟨k, t, hk, ht, rfl, rfl, hz, hbel⟩ := hrel
    by_cases hlt : k < v.items.length
    · obtain ⟨b1, o1, s1, rfl, g1, p0, p1, p2, p3, p4, p5, _⟩ := (HV.out.below (hbel.mono hBW)).item k hlt
      have l1 : b1 < wr.heap.size := by have := hbel.size; omega
      have HC := hide (fun (U : World) (b : Below wr.heap.size wr U) => HD.out v.items[k] U B s1 (HSZ.out _ (List.getElem_mem hlt)) (by have := hbel.size; have := b.size; omega) (p5.below (b.mono (by have := hbel.size; omega))))
      have HZ := hide ((maxL_take depV v.items k hlt).trans (by rw [hz]))
      have HU := hide (Nat.le_trans (depV_size v.items[k]) (HSZ.out _ (List.getElem_mem hlt)))
      obtain ⟨xx1, yy1, rfl, _⟩ := p5.len
      have HB2 := hide hbel
      clear hz p5 hbel g1
      generalize v.items[k].items = xi at *
      generalize v.items[k] = x at *
      generalize depV x = u at *
      have hu := HU.out
      go_wp2_with (go_at_call 43; refine (HC.out _ (alloc_v (Below.refl _ _) _)).mono ?_; clear HC; rintro e w2 ⟨rfl, b2⟩)
      go_roundw
      case rel => exact ⟨k + 1, max t u, by omega, by omega, by simp <;> omega, by go_num, HZ.out, trans_v HB2.out (trans_v (alloc_v (Below.refl _ _) _) b2)⟩
      case measure => simp [intOf]; omega
    · rw [List.take_of_length_le (by omega)] at hz
      have HZ := hide hz
      clear hz
      go_wp2
      go_ret
      exact ⟨by rw [HE.out, HZ.out]; rfl, trans_v bW hbel⟩
theorem depth_k : ∀ n, DepthC n
  | 0 => fun _ _ _ _ _ _ h => h.elim
  | n + 1 => depth_step (depth_k n)
set_option maxRecDepth 100000 in
theorem deep_k (v : Vl) (w : World) (n : Nat) (sl : Value) (hT : Tabs w) (htx : v.text.size ≤ 1048576) (hv : v.size ≤ 1000000000) (hs : ItemsAt w w.heap.size n sl v.items) :
    Calls Tryz.prog 26 #[.agg (vcells v sl)] w fun e w' => e = .returned (.int .i64 (if rightV v then (depV v : Int) else 0)) ∧ Below w.heap.size w w' := by
  obtain ⟨W, hW⟩ : ∃ W, w.alloc (.cells (vcells v sl) 26) = W := ⟨_, rfl⟩
  have bW : Below w.heap.size w W := by rw [← hW]; exact alloc_v (Below.refl _ _) _
  have e1 : W.heap[w.heap.size]? = some (.cells (vcells v sl) 26 (0, 0)) := by rw [← hW]; exact World.alloc_heap_new w _
  have zW : w.heap.size < W.heap.size := (Array.getElem?_eq_some_iff.1 e1).1
  have x0 := cells_at e1 0 _ rfl
  have x1 := cells_at e1 1 _ rfl
  have x2 := cells_at e1 2 _ rfl
  have x3 := cells_at e1 3 _ rfl
  have x4 := cells_at e1 4 _ rfl
  have HR := hide (right_k v W n sl (hT.below bW) htx ((hs.below bW).up bW.size))
  have HD := hide (fun (U : World) (b : Below W.heap.size W U) => depth_k n v U w.heap.size sl hv (trans_v bW b).size (hs.below (trans_v bW b)))
  obtain ⟨a, c, rfl, _⟩ := hs.len
  clear hs e1 hT
  generalize rightV v = x at *
  cases x
  · go_enter Tryz.func26, Tryz.ntmps26
    go_wp2_with (go_at_call 18; refine HR.out.mono ?_; clear HR; rintro e w2 ⟨rfl, b2⟩; have hc := (bcellV b2).1)
    go_ret
    exact ⟨rfl, trans_v bW b2⟩
  · go_enter Tryz.func26, Tryz.ntmps26
    go_wp2_with (first
      | (go_at_call 18; refine HR.out.mono ?_; clear HR; rintro e w2 ⟨rfl, b2⟩; have hc := (bcellV b2).1)
      | (go_at_call 43; refine (HD.out _ b2).mono ?_; clear HD; rintro e w3 ⟨rfl, b3⟩))
    go_ret
    exact ⟨rfl, trans_v (trans_v bW b2) b3⟩
end Go.Proofs.YtngnlofjjlkcmaaGreatDoor
