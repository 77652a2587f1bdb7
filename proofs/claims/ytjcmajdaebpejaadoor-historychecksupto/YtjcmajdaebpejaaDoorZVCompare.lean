/- Compare of the program and of the document. -/
import Derived.Test.YtjcmajdaebpejaaDoorGRefR
namespace Go.Proofs.YtjcmajdaebpejaaDoor
open Go.RowKit

def cmpV (a b : Vl) : Int := if rightV a then (if rightV b then ordV a b else -1) else (if rightV b then 1 else 0)
set_option maxRecDepth 100000 in
theorem refRight_k (v : Vl) (w : World) (n : Nat) (sl : Value) (htx : v.text.size ≤ 1048576) (hs : ItemsAt w w.heap.size n sl v.items) :
    Calls Tryd.prog 50 #[.agg (vcells v sl)] w fun e w' => e = .returned (.bool (rightV v)) ∧ Below w.heap.size w w' := by
  obtain ⟨W, hW⟩ : ∃ W, w.alloc (.cells (vcells v sl) 42) = W := ⟨_, rfl⟩
  have bW : Below w.heap.size w W := by rw [← hW]; exact alloc_v (Below.refl _ _) _
  have e1 : W.heap[w.heap.size]? = some (.cells (vcells v sl) 42 (0, 0)) := by rw [← hW]; exact World.alloc_heap_new w _
  have zW : w.heap.size < W.heap.size := (Array.getElem?_eq_some_iff.1 e1).1
  have x0 := cells_at e1 0 _ rfl
  have x1 := cells_at e1 1 _ rfl
  have x2 := cells_at e1 2 _ rfl
  have x3 := cells_at e1 3 _ rfl
  have x4 := cells_at e1 4 _ rfl
  have HE := hide (right_doc v)
  have HC := hide (count_k 16 v W w.heap.size n 0 sl (Nat.le_refl _) (by omega) bW.size (hs.below bW))
  have HF := hide (fun (U : World) (b : Below W.heap.size W U) => form_k n v U w.heap.size sl htx (trans_v bW b).size (hs.below (trans_v bW b)))
  obtain ⟨a, c, rfl, _⟩ := hs.len
  clear hs e1
  generalize cnt 16 v 0 = u at *
  generalize formV v = f at *
  by_cases hu : u ≤ 4096
  · have hu' : (u : Int) ≤ 4096 := by omega
    rw [← HE.out, decide_eq_true hu, Bool.true_and]
    go_enter Tryd.func50, Tryd.ntmps50
    go_wp2_with (first
      | (go_at_call 30; refine HC.out.mono ?_; clear HC; rintro e w2 ⟨rfl, b2⟩; have hc := (bcellV b2).1)
      | (go_at_call 59; refine (HF.out _ b2).mono ?_; clear HF; rintro e w3 ⟨rfl, b3⟩))
    go_ret
    exact ⟨rfl, trans_v (trans_v bW b2) b3⟩
  · have hu' : ¬ (u : Int) ≤ 4096 := by omega
    rw [← HE.out, decide_eq_false hu, Bool.false_and]
    go_enter Tryd.func50, Tryd.ntmps50
    go_wp2_with (go_at_call 30; refine HC.out.mono ?_; clear HC; rintro e w2 ⟨rfl, b2⟩; have hc := (bcellV b2).1)
    go_ret
    exact ⟨rfl, trans_v bW b2⟩
end Go.Proofs.YtjcmajdaebpejaaDoor
