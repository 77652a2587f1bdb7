/- Encode and Print of a value, where only a right value's bytes and text are bounded; how long these are. -/
import Derived.Test.YtgglommnipbagaaGreatDoorZVMake
namespace Go.Proofs.YtgglommnipbagaaGreatDoor
open Go.RowKit
open Go.Lib (uvarint uvarint_pos uvarint_length64)

theorem right_size {v : Vl} (h : rightV v = true) : v.size ≤ 4096 := by
  have := right_doc v
  rw [h, Bool.and_eq_true, decide_eq_true_eq] at this
  have h2 := ((cnt_is 16 v 0).1.1 this.1).1
  omega
theorem zz_len {i : Int} (h0 : -9223372036854775808 ≤ i) (h1 : i ≤ 9223372036854775807) : (uvarint (zz i)).length ≤ 10 := uvarint_length64 (by have := zz_lt i h0 h1; omega)
theorem flat_sum {l : List Vl} {f : Vl → List UInt8} {c : Nat} (h : ∀ x ∈ l, (f x).length ≤ x.size * c) : ((l.map f).flatten).length ≤ (l.map Vl.size).sum * c := by
  induction l with
  | nil => simp
  | cons x l ih =>
    have h1 := h x (by simp)
    have h2 := ih fun y hy => h y (by simp [hy])
    simp only [List.map_cons, List.flatten_cons, List.length_append, List.sum_cons, Nat.add_mul]
    omega
set_option maxRecDepth 100000 in
theorem enc_len : ∀ (n : Nat) (v : Vl) (w : World) (B : Nat) (sl : Value), ItemsAt w B n sl v.items → v.ok → (encV v).length ≤ v.size * 1048700
  | 0, _, _, _, _, h, _ => h.elim
  | n + 1, v, w, B, sl, h, hok => by
    obtain ⟨a, c, rfl, hla⟩ := h.len
    have hit : ∀ x ∈ v.items, (encV x).length ≤ x.size * 1048700 := fun x hx => by
      obtain ⟨j, hj, rfl⟩ := List.getElem_of_mem hx
      obtain ⟨b, o, s, _, _, _, _, _, _, _, h5, h6⟩ := h.item j hj
      exact enc_len n _ w B s h5 h6
    have hf := flat_sum hit
    have hu : (uvarint v.items.length).length ≤ 10 := uvarint_length64 (by unfold maxLen at hla; omega)
    have z1 := zz_len hok.2.1.1 hok.2.1.2
    have z2 := zz_len hok.2.2.1 hok.2.2.2
    have ht : (txt v.text).length ≤ 10 + 1048576 := by
      unfold txt
      rw [List.length_append, size_eq]
      have : (uvarint v.text.size).length ≤ 10 := uvarint_length64 (by have := hok.1; omega)
      have := hok.1
      omega
    obtain ⟨S, hS⟩ : ∃ S, (v.items.map Vl.size).sum * 1048700 = S := ⟨_, rfl⟩
    rw [hS] at hf
    have hsz : v.size * 1048700 = S + 1048700 := by rw [Vl.size_eq, Nat.add_mul, hS, Nat.one_mul]
    rw [hsz, encV_eq, List.length_cons]
    clear hsz hS
    split
    · simp
    · split
      · omega
      · split
        · rw [List.length_append]; omega
        · split
          · omega
          · rw [List.length_append]; omega
theorem enc_short {n : Nat} {v : Vl} {w : World} {B : Nat} {sl : Value} (h : ItemsAt w B n sl v.items) (hok : v.ok) (hr : rightV v = true) : (encV v).length ≤ 1000000000000 := by
  have h1 := enc_len n v w B sl h hok
  have h2 := right_size hr
  have h3 := Nat.mul_le_mul_right 1048700 h2
  omega
set_option maxRecDepth 100000 in
theorem encodeC_k (v : Vl) (w : World) (n : Nat) (sl : Value) (hT : Tabs w) (hok : v.ok) (hz : v.size ≤ 1000000000) (hs : ItemsAt w w.heap.size n sl v.items) :
    Calls Tryz.prog 48 #[.agg (vcells v sl)] w fun e w' => ∃ bv, e = .returned (.tuple #[bv, .int .i64 (bif rightV v then 0 else 40)]) ∧ RowB w w.heap.size none w' bv (bif rightV v then encV v else []) := by
  have hl := enc_short hs hok
  obtain ⟨W, hW⟩ : ∃ W, w.alloc (.cells (vcells v sl) 25) = W := ⟨_, rfl⟩
  have bW : Below w.heap.size w W := by rw [← hW]; exact alloc_v (Below.refl _ _) _
  have e1 : W.heap[w.heap.size]? = some (.cells (vcells v sl) 25 (0, 0)) := by rw [← hW]; exact World.alloc_heap_new w _
  have x0 := cells_at e1 0 _ rfl
  have x1 := cells_at e1 1 _ rfl
  have x2 := cells_at e1 2 _ rfl
  have x3 := cells_at e1 3 _ rfl
  have x4 := cells_at e1 4 _ rfl
  have zW : w.heap.size < W.heap.size := (Array.getElem?_eq_some_iff.1 e1).1
  have HR := hide (right_k v W n sl (hT.below bW) hok.1 ((hs.below bW).up bW.size))
  have HE := hide (fun (h : rightV v = true) (U : World) (b : Below W.heap.size W U) => enc_k n v U w.heap.size w.heap.size sl (.slice none 0 0) [] (form_right h) hok hz (Nat.le_refl _) (trans_v bW b).size (hs.below (trans_v bW b)) (World.ownsRow_nil _ _ _ _) (by simpa using hl h))
  obtain ⟨a, c, rfl, _⟩ := hs.len
  clear hs e1 hT
  cases hx : rightV v
  · rw [hx] at HR
    go_enter Tryz.func48, Tryz.ntmps48
    go_wp2_with (go_at_call 56; refine HR.out.mono ?_; clear HR; rintro e w2 ⟨rfl, b2⟩)
    go_ret2
    exact ⟨_, rfl, RowB.below (rowNil w) (trans_v bW b2)⟩
  · rw [hx] at HR
    have HE := hide (HE.out hx)
    clear hx
    go_enter Tryz.func48, Tryz.ntmps48
    go_wp2_with (first
      | (go_at_call 56; refine HR.out.mono ?_; clear HR; rintro e w2 ⟨rfl, b2⟩; have hc := (bcellV b2).1)
      | (go_at_call 99; refine (HE.out _ b2).mono ?_; clear HE; rintro e w3 ⟨bv, rfl, r3⟩))
    go_ret2
    exact ⟨_, rfl, RowB.more (RowB.below (rowNil w) (trans_v bW b2)) r3⟩
end Go.Proofs.YtgglommnipbagaaGreatDoor
