/- Events of operations that are not right; the numbers of processes and objects, of both. -/
import Derived.Test.YtnmkggoampkekaaGreatDoorGHES
import Derived.Test.YtnmkggoampkekaaGreatDoorGHRfA
import Derived.Test.YtnmkggoampkekaaGreatDoorGHTl
import Derived.Test.YtnmkggoampkekaaGreatDoorGHRfE
namespace Go.Proofs.YtnmkggoampkekaaGreatDoor
open Go.RowKit Go.Maps

theorem idxFrom_fnd (l : List (List UInt8)) (s : List UInt8) : ∀ i : Nat, Lib.idxFromS (l.map bsN) (bsN s) i = if s ∈ l then ((i + l.idxOf s : Nat) : Int) else -1 := by
  induction l with
  | nil => intro i; simp [Lib.idxFromS]
  | cons x l ih =>
    intro i
    rw [List.map_cons, Lib.idxFromS]
    by_cases e : x = s
    · subst e
      simp
    · rw [if_neg (fun h => e (bsN_inj h)), ih (i + 1)]
      by_cases hm : s ∈ l
      · have hi : (x :: l).idxOf s = l.idxOf s + 1 := by rw [List.idxOf_cons, show (x == s) = false from by simpa using e]; rfl
        rw [if_pos hm, if_pos (List.mem_cons_of_mem _ hm), hi]
        omega
      · rw [if_neg hm, if_neg (fun h => (List.mem_cons.1 h).elim (fun h => e h.symm) hm)]
/-- Both look up alike. -/
theorem idxN_fnd (l : List (List UInt8)) (s : List UInt8) : idxN l s = fnd l s := by
  unfold idxN Lib.idxOfS
  rw [idxFrom_fnd]
  unfold fnd
  simp
end Go.Proofs.YtnmkggoampkekaaGreatDoor

/- Events and Check of both: they answer the same. -/
namespace Go.Proofs.YtnmkggoampkekaaGreatDoor
open Go.RowKit Go.Maps

/-- What the reference takes is what the program takes, and it is the same. -/
theorem told_laidR {P O : List (List UInt8)} {cs : List HV} {E : List EV} (h : laidM P O cs = some E) (hag : AgreeM P O cs (E.map (·.1))) : MadeBy P O cs (E.map (·.1)) ∧ laidR P O cs cs.length = some (E.map (·.1)) := by
  have hm := told_made h hag
  obtain ⟨E', h1, h2, _⟩ := hm.told
  obtain rfl : E' = E := Option.some.inj (h1.symm.trans h)
  refine ⟨hm, ?_⟩
  rw [hm.laidR, ← h2]
set_option maxRecDepth 100000 in
theorem refCheck_k (w : World) (a0 a1 a2 : Option Addr) (m0 m1 m2 c0 c1 c2 : Nat) (c : Int) (Q : World → Value → Prop)
    (h : ∀ U, Below w.heap.size w U → Calls Tryz.prog 26 #[.agg #[.slice a0 m0 c0, .slice a1 m1 c1, .slice a2 m2 c2]] U fun e w' => (∃ va vm vc, e = .returned (.tuple #[.slice va vm vc, .int .i64 c]) ∧ Q w' (.slice va vm vc)) ∧ Below U.heap.size U w') :
    Calls Tryz.prog 19 #[.agg #[.slice a0 m0 c0, .slice a1 m1 c1, .slice a2 m2 c2]] w fun e w' => e = .returned (.int .i64 c) ∧ Below w.heap.size w w' := by
  obtain ⟨W, hW⟩ : ∃ W, w.alloc (.cells #[.slice a0 m0 c0, .slice a1 m1 c1, .slice a2 m2 c2] 25) = W := ⟨_, rfl⟩
  have bW : Below w.heap.size w W := by rw [← hW]; exact alloc_v (Below.refl _ _) _
  have e1 : W.heap[w.heap.size]? = some (.cells #[.slice a0 m0 c0, .slice a1 m1 c1, .slice a2 m2 c2] 25 (0, 0)) := by rw [← hW]; exact World.alloc_heap_new w _
  have HE := hide (h W bW)
  have x0 := cells_at e1 0 _ rfl
  have x1 := cells_at e1 1 _ rfl
  have x2 := cells_at e1 2 _ rfl
  clear h e1
  go_enter Tryz.func19, Tryz.ntmps19
  go_wp2_with (go_at_call 26; refine HE.out.mono ?_; clear HE; rintro r w1 ⟨⟨va, vm, vc, rfl, _⟩, b1⟩; have HB := hide (trans_v bW b1); clear b1)
  go_ret
  exact ⟨rfl, HB.out⟩
end Go.Proofs.YtnmkggoampkekaaGreatDoor
