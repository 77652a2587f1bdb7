/- newRoll, newGathering, tooLarge. -/
import Derived.Test.YtooddjfkibbkeaaDoorZHCalls
namespace Go.Proofs.YtooddjfkibbkeaaDoor
open Go.RowKit Go.Maps

theorem Keeps.set (w : World) (b o : Nat) (v : Value) : Keeps (fun k => k = b) w (w.setCell ⟨b, o, none⟩ v) :=
  Keeps.grown (row := some b) ⟨rfl, rfl, rfl, by simp [World.setCell], fun k _ hne => Below.heap_setCell w ⟨b, o, none⟩ v k (fun e => hne (by rw [e]))⟩ (fun r e => by cases e; rfl)
theorem infoRoll : (Tryd.prog.info? 81).map (·.size) = some 2 := by kernel_rfl
set_option maxRecDepth 100000 in
theorem newRoll_k (w : World) : Calls Tryd.prog 53 #[] w fun e w' => e = .returned (.agg #[.slice none 0 0, .map (some (w.heap.size + 1))]) ∧ NumM w' (w.heap.size + 1) [] ∧ Below w.heap.size w w' ∧ w'.heap.size = w.heap.size + 2 := by
  have hmm := @run_makeMap Tryd.prog
  have e1 := World.alloc_heap_new w (.cells #[.slice none 0 0, .map none] 81)
  have e2 := (Below.heap_alloc (w.alloc (.cells #[.slice none 0 0, .map none] 81)) (.map #[] 0) w.heap.size (by simp)).trans e1
  have n1 := NumM.new (w.alloc (.cells #[.slice none 0 0, .map none] 81))
  rw [World.size_alloc] at n1
  obtain ⟨W, hW⟩ : ∃ W, (w.alloc (.cells #[.slice none 0 0, .map none] 81)).alloc (.map #[] 0) = W := ⟨_, rfl⟩
  rw [hW] at e2 n1
  have bW : Below w.heap.size w W := by rw [← hW]; exact alloc_v (alloc_v (Below.refl _ _) _) _
  have zW : W.heap.size = w.heap.size + 2 := by rw [← hW]; simp
  have c0 := cells_at e2 0 _ rfl
  have c1 := cells_at e2 1 _ rfl
  have q0 := frozen_at e2 0
  have q1 := frozen_at e2 1
  have HH := hide (And.intro e2 (And.intro n1 (And.intro bW zW)))
  clear e1 e2 n1 bW zW
  go_enter Tryd.func53, Tryd.ntmps53
  go_wp2
  obtain ⟨e2, n1, bW, zW⟩ := HH.out
  have g1 := heap_setCell_same _ _ 0 _ _ (.slice none 0 0) e2
  have g2 := heap_setCell_same _ _ 1 _ _ (.map (some (w.heap.size + 1))) g1
  refine bodyPost_ret (results_cell_row rfl _ _ w.heap.size _ _ _ _ rfl g2 Tryd.underlying81 rfl infoRoll) rfl ?_
  have k : Keeps (fun k => k = w.heap.size) W ((W.setCell ⟨w.heap.size, 0, none⟩ (.slice none 0 0)).setCell ⟨w.heap.size, 1, none⟩ (.map (some (w.heap.size + 1)))) :=
    (Keeps.set _ _ _ _).trans (Keeps.set _ _ _ _) (fun _ _ h => h)
  exact ⟨rfl, k.num n1 (by omega), (bW.setCell (Nat.le_refl _) _).setCell (Nat.le_refl _) _, by simpa [World.setCell] using zW⟩
theorem row_nil (w : World) (L : Nat) (t : TypeId) (z : Nat) : w.ownsRow L t z (.slice none 0 0) 0 [] := ⟨by simp, .inl ⟨rfl, rfl⟩⟩
theorem Keeps.blw {M : Nat → Prop} {w w' : World} (h : Below w.heap.size w w') : Keeps M w w' := Keeps.below h
set_option maxRecDepth 100000 in
theorem newGathering_k (w : World) (B n : Nat) (hB : B ≤ w.heap.size) : Calls Tryd.prog 40 #[] w fun e w' => ∃ L gb mp mo mm, e = .returned (.pointer (some ⟨gb, 0, none⟩)) ∧ Fix w.heap.size L gb mp mo mm ∧ GAt w' B w.heap.size L gb mp mo mm 0 n ⟨[], [], [], []⟩ (.slice none 0 0) (.slice none 0 0) (.slice none 0 0) [] ∧ Below w.heap.size w w' := by
  have hmm := @run_makeMap Tryd.prog
  have HR1 := hide (newRoll_k w)
  have HR2 := hide newRoll_k
  go_enter Tryd.func40, Tryd.ntmps40
  go_wp2_with (first
    | (go_at_call 53; refine HR1.out.mono ?_; clear HR1; rintro e w1 ⟨rfl, n1, b1, z1⟩; have H1 := hide (And.intro n1 (And.intro b1 z1)); clear n1 b1 z1)
    | (go_at_call 53; refine (HR2.out _).mono ?_; clear HR2; rintro e w2 ⟨rfl, n2, b2, z2⟩; have H2 := hide (And.intro n2 (And.intro b2 z2)); clear n2 b2 z2))
  go_ret
  obtain ⟨n1, b1, z1⟩ := H1.out
  obtain ⟨n2, b2, z2⟩ := H2.out
  have b3 : Below w2.heap.size w2 (w2.alloc (.map #[] 0)) := alloc_v (Below.refl _ _) _
  obtain ⟨X, hX⟩ : ∃ X, w2.alloc (.map #[] 0) = X := ⟨_, rfl⟩
  have zX : X.heap.size = w2.heap.size + 1 := by rw [← hX]; simp
  have m3 := OpnM.new w2
  rw [hX] at b3 m3 ⊢
  obtain ⟨Y, hY⟩ : ∃ Y, X.alloc (.cells #[.slice none 0 0, .map (some (w.heap.size + 1)), .slice none 0 0, .map (some (w1.heap.size + 1)), .slice none 0 0, .map (some w2.heap.size)] 84) = Y := ⟨_, rfl⟩
  have b4 : Below X.heap.size X Y := by rw [← hY]; exact alloc_v (Below.refl _ _) _
  have e4 : Y.heap[X.heap.size]? = some (.cells #[.slice none 0 0, .map (some (w.heap.size + 1)), .slice none 0 0, .map (some (w1.heap.size + 1)), .slice none 0 0, .map (some w2.heap.size)] 84 (0, 0)) := by rw [← hY]; exact World.alloc_heap_new X _
  have zY : Y.heap.size = X.heap.size + 1 := by rw [← hY]; simp
  rw [← zX, hY]
  refine ⟨Y.heap.size, X.heap.size, w.heap.size + 1, w1.heap.size + 1, w2.heap.size, rfl, ⟨by omega, by omega, by omega⟩, ⟨e4, row_nil _ _ _ _, row_nil _ _ _ _, row_nil _ _ _ _, rfl, fun x h => absurd h (by simp), hB, ?_, ?_, ?_, fun k h => (by cases h), Nat.le_refl _⟩, trans_v (trans_v (trans_v b1 b2) b3) b4⟩
  · exact (Keeps.below (M := fun _ => False) b4).num ((Keeps.below (M := fun _ => False) b3).num ((Keeps.below (M := fun _ => False) b2).num n1 (fun h => h)) (fun h => h)) (fun h => h)
  · exact (Keeps.below (M := fun _ => False) b4).num ((Keeps.below (M := fun _ => False) b3).num n2 (fun h => h)) (fun h => h)
  · exact (Keeps.below (M := fun _ => False) b4).opn m3 (fun h => h)
set_option maxRecDepth 100000 in
theorem tooLarge_k (w : World) (B h0 L gb mp mo mm k n : Nat) (g : Gs) (v0 v1 v2 : Value) (rs : List CV) (hg : GAt w B h0 L gb mp mo mm k n g v0 v1 v2 rs) (hp : g.procs.length ≤ 1000000000) (hc : g.calls.length ≤ 1000000000) (ho : g.opn.length ≤ 1000000000) :
    Calls Tryd.prog 42 #[.pointer (some ⟨gb, 0, none⟩)] w fun e w' => e = .returned (.bool (largeG g)) ∧ w = w' := by
  have c0 := cells_at hg.blk 0 _ rfl
  have c4 := cells_at hg.blk 4 _ rfl
  have c5 := cells_at hg.blk 5 _ rfl
  obtain ⟨a0, b0, e0⟩ := rowLen hg.pr
  obtain ⟨a2, b2, e2⟩ := rowLen hg.cl
  obtain ⟨D, hown, _, _, hsz, _⟩ := hg.om
  subst e0 e2
  have HO := hide hown
  clear hg hown
  unfold largeG
  by_cases q1 : 64 < g.procs.length
  · have q1' : (64 : Int) < (g.procs.length : Int) := by omega
    go_enter Tryd.func42, Tryd.ntmps42
    go_wp2
    go_ret
    exact ⟨by simp [q1], rfl⟩
  have q1' : ¬ (64 : Int) < (g.procs.length : Int) := by omega
  by_cases q2 : 4096 < g.calls.length
  · have q2' : (4096 : Int) < (g.calls.length : Int) := by omega
    go_enter Tryd.func42, Tryd.ntmps42
    go_wp2
    go_ret
    exact ⟨by simp, rfl⟩
  have q2' : ¬ (4096 : Int) < (g.calls.length : Int) := by omega
  have hl := HO.out.len Tryd.underlying82 3
  rw [hsz] at hl
  go_enter Tryd.func42, Tryd.ntmps42
  go_wp2
  go_ret
  refine ⟨?_, rfl⟩
  simp
  omega
end Go.Proofs.YtooddjfkibbkeaaDoor
