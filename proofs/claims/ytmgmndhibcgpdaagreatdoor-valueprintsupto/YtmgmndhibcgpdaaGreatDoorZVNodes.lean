/- Nodes: how many parts a value has. -/
import Derived.Test.YtmgmndhibcgpdaaGreatDoorZVWithin
import Derived.RangeFuncKeeps
namespace Go.Proofs.YtmgmndhibcgpdaaGreatDoor
open Go.RowKit
attribute [local go_sem] Oper.semAt_some

/-- A counter in a block of its own, that a loop's rounds turn. -/
def Cn {α : Type} (nb : Nat) (X : World) (f : List α → Int) (pre : List α) (S : Blocks) (W : World) : Prop :=
  Boxed W nb 3 (.int .i64 (f pre)) ∧ Below nb X W ∧ ∀ k, S k → nb < k
theorem Cn.own {α : Type} {nb : Nat} {X : World} (f : List α → Int) (hX : nb < X.heap.size) : OwnL X.heap.size (Cn nb X f) := by
  refine ⟨?_, ?_⟩
  · rintro s S W W' row ⟨h1, h2, h3⟩ hg hr
    have hlow : ∀ r, row = some r → nb < r := fun r e => by
      rcases hr r e with h | h
      · have := h.1; omega
      · exact h3 r h
    exact ⟨h1.kept hg (fun e => by have := hlow nb e.symm; omega), h2.grown hg (by have := h2.size; omega) (fun k e => by have := hlow k e; omega), h3⟩
  · rintro s S S' W ⟨h1, h2, h3⟩ hc
    refine ⟨h1, h2, fun k hk => ?_⟩
    rcases hc k hk with h | h
    · exact h3 k h
    · have := h1.lt; omega
theorem Cn.put {α : Type} {nb : Nat} {X : World} {f : List α → Int} {pre : List α} {S : Blocks} {W : World} (h : Cn nb X f pre S W) (_hX : nb < X.heap.size) (post : List α) : Cn nb X f post S (W.setCell ⟨nb, 0, none⟩ (.int .i64 (f post))) :=
  ⟨h.1.set _, h.2.1.setCell (Nat.le_refl _) _, h.2.2⟩
theorem Cn.kept {α : Type} {nb : Nat} {X : World} {f : List α → Int} {pre : List α} {S K : Blocks} {W : World} (h : Cn nb X f pre S W) (hX : nb < X.heap.size) (hK : ∀ k, K k → k < nb) (v : Value) : KeptP X.heap.size K S W (W.setCell ⟨nb, 0, none⟩ v) :=
  KeptP.grown (row := some nb) ⟨rfl, rfl, rfl, by simp [World.setCell], fun k _ hne => Below.heap_setCell W _ v k (fun e => hne (by rw [e]))⟩
    (fun r e => by cases e; exact ⟨fun h' => by have := hK _ h'; omega, fun h' => by have := h.2.2 _ h'; omega, .inl (by omega)⟩)

theorem ownL_false {α : Type} (B : Nat) : OwnL B (fun (_ : α) (_ : Blocks) (_ : World) => False) := ⟨fun _ _ _ _ _ h _ _ => h, fun _ _ _ _ h _ => h⟩
theorem within_k (v : Vl) (a : Option Addr) (c : Nat) (w : World) : Calls Tryz.prog 55 #[.agg (vcells v (.slice a v.items.length c))] w fun e w' => e = .returned (.func (.func 93) #[] #[.pointer (some ⟨w.heap.size, 0, none⟩)]) ∧ w.alloc (.cells (vcells v (.slice a v.items.length c)) 25) = w' := by
  have hmf : ∀ (fn : Fn) (first cap : Array Value) (w : World), (Instr.makeFunc fn first cap).run Tryz.prog w = .ok (.func fn first cap) w := fun _ _ _ _ => rfl
  go_enter Tryz.func55, Tryz.ntmps55
  go_wp2
  go_ret
  exact ⟨rfl, rfl⟩
set_option maxRecDepth 100000 in
set_option maxHeartbeats 4000000 in
theorem nodes_k (v : Vl) (w : World) (N : Nat) (sl : Value) (hT : Tabs w) (hok : v.ok) (hz : v.size ≤ 1000000000) (hi : ItemsAt w w.heap.size N sl v.items) (hr : rightV v = true) :
    Calls Tryz.prog 48 #[.agg (vcells v sl)] w fun e w' => e = .returned (.int .i64 v.size) ∧ Below w.heap.size w w' := by
  obtain ⟨a, c, rfl, _⟩ := hi.len
  obtain ⟨W, hW⟩ : ∃ W, w.alloc (.cells (vcells v (.slice a v.items.length c)) 25) = W := ⟨_, rfl⟩
  have bW : Below w.heap.size w W := by rw [← hW]; exact alloc_v (Below.refl _ _) _
  have zW : W.heap.size = w.heap.size + 1 := by rw [← hW]; simp
  have e1 : W.heap[w.heap.size]? = some (.cells (vcells v (.slice a v.items.length c)) 25 (0, 0)) := by rw [← hW]; exact World.alloc_heap_new w _
  have x0 := cells_at e1 0 _ rfl
  have x1 := cells_at e1 1 _ rfl
  have x2 := cells_at e1 2 _ rfl
  have x3 := cells_at e1 3 _ rfl
  have x4 := cells_at e1 4 _ rfl
  have HR := hide (right_k v W N (.slice a v.items.length c) (hT.below bW) hok.1 ((hi.below bW).up bW.size))
  rw [hr] at HR
  have HE := hide e1
  have HI := hide hi
  clear hi hT hr e1 zW
  obtain ⟨nn, _⟩ : ∃ nn : Nat, True := ⟨8, trivial⟩
  refine (callsIn_wide (n := nn)).1 ?_
  refine callsIn_of_wp_marks Tryz.func48 rfl trivial ?_ rfl
  simp only [Tryz.ntmps48, List.size_toArray, List.length_cons, List.length_nil, Nat.reduceAdd, Nat.reduceSub, Array.replicate_succ, Array.replicate_zero, List.push_toArray, List.append_toArray, List.nil_append, List.cons_append]
  gi_wp2_with (first
    | (refine ⟨trivial, (fun h => by cases h), ?_⟩; gi_at_call 51; refine (callsIn_wide.2 HR.out).mono ?_; clear HR; rintro e w2 ⟨rfl, b2⟩; have f2 := (b2.block w.heap.size (Array.getElem?_eq_some_iff.1 HE.out).1).trans HE.out; have y0 := cells_at f2 0 _ rfl; have y1 := cells_at f2 1 _ rfl; have y2 := cells_at f2 2 _ rfl; have y3 := cells_at f2 3 _ rfl; have y4 := cells_at f2 4 _ rfl; have l2 : w.heap.size < w2.heap.size := (Array.getElem?_eq_some_iff.1 f2).1; have B2 := hide b2; clear b2 f2)
    | (refine ⟨trivial, (fun h => by cases h), ?_⟩; gi_at_call 55; refine (callsIn_wide.2 (within_k v a c _)).mono ?_; rintro e w3 ⟨rfl, rfl⟩))
  obtain ⟨X1, hX1⟩ : ∃ X1, (w2.alloc (.cells #[.int .i64 0] 3)).alloc (.cells (vcells v (.slice a v.items.length c)) 25) = X1 := ⟨_, rfl⟩
  have hz1 : X1.heap.size = w2.heap.size + 2 := by rw [← hX1]; simp
  have n1 : Boxed X1 w2.heap.size 3 (.int .i64 0) := by rw [← hX1]; exact (Below.heap_alloc _ _ _ (by simp)).trans (World.alloc_heap_new w2 _)
  have v1 : X1.heap[w2.heap.size + 1]? = some (.cells (vcells v (.slice a v.items.length c)) 25 (0, 0)) := by
    rw [← hX1]
    have := World.alloc_heap_new (w2.alloc (.cells #[.int .i64 0] 3)) (.cells (vcells v (.slice a v.items.length c)) 25)
    rwa [World.size_alloc] at this
  have b2X : Below w2.heap.size w2 X1 := by rw [← hX1]; exact alloc_v (alloc_v (Below.refl _ _) _) _
  have bw2 := trans_v bW B2.out
  have hlt1 : w2.heap.size < X1.heap.size := by omega
  rw [hX1]
  clear hX1 y0 y1 y2 y3 y4 x0 x1 x2 x3 x4 hW
  refine seqp_law (gf := 93) (lb := #[.pointer (some ⟨w2.heap.size + 1, 0, none⟩)]) rfl (enters_of Tryz.func93 (by kernel_rfl) rfl) (K := fun k => k < w.heap.size) (fun k hk => by omega)
    (within_seq _ N v (w2.heap.size + 1) w.heap.size (.slice a v.items.length c) X1 v1 (HI.out.below (trans_v bw2 b2X)) hok hz (by omega)) (fun _ _ _ _ h => by obtain ⟨_, _, rfl, _⟩ := h; rfl)
    (Cn w2.heap.size X1 (fun l : List Vl => (l.length : Int))) (fun _ _ _ _ => False) (Cn.own _ hlt1) (fun _ => ownL_false _) ⟨n1, Below.refl _ _, fun _ h => h.elim⟩ ?round1 ?done1 ?stop1
  case stop1 =>
    rintro c S pre x W _ h _
    exact h.elim
  case round1 =>
    rintro l pre x S vs W9 hC hS ⟨post, hpost⟩ ⟨_, sl9, rfl, _⟩ hsz
    have hlen : pre.length + 1 ≤ 1000000000 := by
      have := partsV_len v.size v (Nat.le_refl _)
      rw [hpost] at this
      simp at this
      omega
    clear hpost
    gi_wp2
    refine ⟨KeptP.refl _ _ _ _, fun W => Cn w2.heap.size X1 (fun l : List Vl => (l.length : Int)) pre S W, fun X Y row h hg hr => (Cn.own _ hlt1).grown pre S X Y row h hg (fun r e => .inl (hr r e)), hC, ?_⟩
    clear hC
    rintro W₂ hC hsz2
    have c1 := hC.1.cell
    have c2 := hC.1.frozen
    have k1 := hC.put hlt1 (pre ++ [x])
    have k2 := hC.kept (K := fun k => k < w.heap.size) hlt1 (fun k hk => by omega) (.int .i64 ((pre ++ [x]).length : Int))
    have R := hide (And.intro k2 k1)
    have hsn : (((pre ++ [x]).length : Nat) : Int) = (pre.length : Int) + 1 := by simp
    have hadd : IntKind.i64.wrap ((pre.length : Int) + 1) = (pre.length : Int) + 1 := by rw [IntKind.wrap_i64]; omega
    simp only [hsn] at R
    rw [hz1] at R
    clear k1 k2 hC hsn
    gi_wp2
    exact R.out
  case done1 =>
    rintro S W9 ⟨hc1, hc2, _⟩ hK
    have c1 := hc1.cell
    have hl := partsV_len v.size v (Nat.le_refl _)
    simp only [hl] at c1
    rw [hz1] at hK ⊢
    have bF : Below w.heap.size w W9 := (trans_v bw2 b2X).trans (hc2.mono (by omega))
    clear hc1 hc2 hl
    gi_wp2
    refine ⟨by simp, .inl ⟨_, _, rfl, run_takeDeferred hK, ?_⟩⟩
    exact ⟨_, results_tmp rfl _ _ _, rfl, bF.trans (belowK_b (w := w) (Nat.le_refl _) _ _ _ _ (by omega) hK rfl rfl)⟩
end Go.Proofs.YtmgmndhibcgpdaaGreatDoor
