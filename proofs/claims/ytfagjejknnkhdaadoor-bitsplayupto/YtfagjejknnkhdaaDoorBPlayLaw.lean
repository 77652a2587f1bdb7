/- BitsPlay: two sets of any rooms, and every script of calls on them. -/
import Derived.Test.YtfagjejknnkhdaaDoorBPlayLex
namespace Go.Proofs.YtfagjejknnkhdaaDoor
open Go.RowKit

theorem heads_b {w : World} (ht : Tab w) (W : World) (b : Below w.heap.size w W) :
    Calls Tryd.prog 6 #[] W fun e w' => e = .returned (.bool true) ∧ Below w.heap.size w w' :=
  (heads_k W (ht.below b ht.lt)).mono fun _ _ ⟨h1, h2⟩ => ⟨h1, b.trans (h2.mono b.size)⟩
theorem alloc_b {w W : World} (b : Below w.heap.size w W) (o : Obj) : Below w.heap.size w (W.alloc o) := b.alloc b.size o
theorem trans_b {w W W' : World} (b : Below w.heap.size w W) (b' : Below W.heap.size W W') : Below w.heap.size w W' := b.trans (b'.mono b.size)

set_option maxRecDepth 100000 in
set_option maxHeartbeats 4000000 in
theorem bitsPlay_nn (n : Int) (hn : n < 0 ∨ 4096 < n) (m : Int) (hm : m < 0 ∨ 4096 < m) (v : Value) (w : World) (ht : Tab w) :
    Calls Tryd.prog 3 #[.int .i64 n, .int .i64 m, v] w fun e w' => e = .returned (.bool true) ∧ Below w.heap.size w w' := by
  have N1 := hide (fun W => new_no n hn W)
  have N2 := hide (fun W => new_no m hm W)
  have R1 := hide (fun W => refNew_no n hn W)
  have R2 := hide (fun W => refNew_no m hm W)
  have HH := hide (fun W b => heads_b ht W b)
  clear hn hm ht
  have B0 := hide (Below.refl w.heap.size w)
  go_enter Tryd.func3, Tryd.ntmps3
  go_wp2_with (first
    | (go_at_call 4; refine (N1.out _).mono ?_; clear N1; rintro e w1 ⟨rfl, hw⟩; have B1 := hide (show Below w.heap.size w w1 from hw ▸ B0.out); clear hw)
    | (go_at_call 4; refine (N2.out _).mono ?_; clear N2; rintro e w2 ⟨rfl, hw⟩; have B2 := hide (show Below w.heap.size w w2 from hw ▸ B1.out); clear hw)
    | (go_at_call 5; refine (R1.out _).mono ?_; clear R1; rintro e w3 ⟨rfl, A2⟩; have B3 := hide (trans_b B2.out A2); clear A2)
    | (go_at_call 5; refine (R2.out _).mono ?_; clear R2; rintro e w4 ⟨rfl, A2⟩; have B4 := hide (trans_b (alloc_b B3.out _) A2); clear A2)
    | (go_at_call 6; refine (HH.out _ (alloc_b B4.out _)).mono ?_; clear HH; rintro e w5 ⟨rfl, b5⟩))
  go_ret
  exact ⟨rfl, b5⟩

set_option maxRecDepth 100000 in
set_option maxHeartbeats 4000000 in
theorem bitsPlay_ny (n : Int) (hn : n < 0 ∨ 4096 < n) (m : Nat) (hm : m ≤ 4096) (v : Value) (w : World) (ht : Tab w) :
    Calls Tryd.prog 3 #[.int .i64 n, .int .i64 (m : Int), v] w fun e w' => e = .returned (.bool true) ∧ Below w.heap.size w w' := by
  have N1 := hide (fun W => new_no n hn W)
  have N2 := hide (fun W => new_k m hm W)
  have R1 := hide (fun W => refNew_no n hn W)
  have R2 := hide (fun W => refNew_k m hm W)
  have HH := hide (fun W b => heads_b ht W b)
  clear hn hm ht
  have B0 := hide (Below.refl w.heap.size w)
  go_enter Tryd.func3, Tryd.ntmps3
  go_wp2_with (first
    | (go_at_call 4; refine (N1.out _).mono ?_; clear N1; rintro e w1 ⟨rfl, hw⟩; have B1 := hide (show Below w.heap.size w w1 from hw ▸ B0.out); clear hw)
    | (go_at_call 4; refine (N2.out _).mono ?_; clear N2; rintro e w2 ⟨rfl, _, A2, _⟩; have B2 := hide (trans_b B1.out A2); clear A2)
    | (go_at_call 5; refine (R1.out _).mono ?_; clear R1; rintro e w3 ⟨rfl, A2⟩; have B3 := hide (trans_b B2.out A2); clear A2)
    | (go_at_call 5; refine (R2.out _).mono ?_; clear R2; rintro e w4 ⟨rfl, _, A2, _⟩; have B4 := hide (trans_b (alloc_b B3.out _) A2); clear A2)
    | (go_at_call 6; refine (HH.out _ (alloc_b B4.out _)).mono ?_; clear HH; rintro e w5 ⟨rfl, b5⟩))
  go_ret
  exact ⟨rfl, b5⟩

set_option maxRecDepth 100000 in
set_option maxHeartbeats 4000000 in
theorem bitsPlay_yn (n : Nat) (hn : n ≤ 4096) (m : Int) (hm : m < 0 ∨ 4096 < m) (v : Value) (w : World) (ht : Tab w) :
    Calls Tryd.prog 3 #[.int .i64 (n : Int), .int .i64 m, v] w fun e w' => e = .returned (.bool true) ∧ Below w.heap.size w w' := by
  have N1 := hide (fun W => new_k n hn W)
  have N2 := hide (fun W => new_no m hm W)
  have R1 := hide (fun W => refNew_k n hn W)
  have R2 := hide (fun W => refNew_no m hm W)
  have HH := hide (fun W b => heads_b ht W b)
  clear hn hm ht
  have B0 := hide (Below.refl w.heap.size w)
  go_enter Tryd.func3, Tryd.ntmps3
  go_wp2_with (first
    | (go_at_call 4; refine (N1.out _).mono ?_; clear N1; rintro e w1 ⟨rfl, _, A2, _⟩; have B1 := hide (trans_b B0.out A2); clear A2)
    | (go_at_call 4; refine (N2.out _).mono ?_; clear N2; rintro e w2 ⟨rfl, hw⟩; have B2 := hide (show Below w.heap.size w w2 from hw ▸ B1.out); clear hw)
    | (go_at_call 5; refine (R1.out _).mono ?_; clear R1; rintro e w3 ⟨rfl, _, A2, _⟩; have B3 := hide (trans_b B2.out A2); clear A2)
    | (go_at_call 5; refine (R2.out _).mono ?_; clear R2; rintro e w4 ⟨rfl, A2⟩; have B4 := hide (trans_b (alloc_b B3.out _) A2); clear A2)
    | (go_at_call 6; refine (HH.out _ (alloc_b B4.out _)).mono ?_; clear HH; rintro e w5 ⟨rfl, b5⟩))
  go_ret
  exact ⟨rfl, b5⟩

theorem two_made {w w1 w2 w3 w4 w5 : World} {n m : Nat}
    (S1 : SetAt w1 (w.heap.size + 1) w.heap.size ((n + 63) / 64) n (List.replicate ((n + 63) / 64) 0)) (B1 : Below w.heap.size w w1) (Z1 : w1.heap.size = w.heap.size + 2)
    (S2 : SetAt w2 (w1.heap.size + 1) w1.heap.size ((m + 63) / 64) m (List.replicate ((m + 63) / 64) 0)) (B2 : Below w1.heap.size w1 w2) (Z2 : w2.heap.size = w1.heap.size + 2)
    (R1 : w3.ownsRow 0 4 1 (.slice (some ⟨w2.heap.size + 1, 0, none⟩) n n) n (bools (List.replicate n false))) (hn : n ≤ 4096) (B3 : Below w2.heap.size w2 w3) (Z3 : w3.heap.size = w2.heap.size + 2)
    (R2 : w4.ownsRow 0 4 1 (.slice (some ⟨(w3.alloc (.cells #[.bool true, .slice (some ⟨w2.heap.size + 1, 0, none⟩) n n] 29)).heap.size + 1, 0, none⟩) m m) m (bools (List.replicate m false))) (hm : m ≤ 4096) (B4 : Below (w3.alloc (.cells #[.bool true, .slice (some ⟨w2.heap.size + 1, 0, none⟩) n n] 29)).heap.size (w3.alloc (.cells #[.bool true, .slice (some ⟨w2.heap.size + 1, 0, none⟩) n n] 29)) w4) (Z4 : w4.heap.size = (w3.alloc (.cells #[.bool true, .slice (some ⟨w2.heap.size + 1, 0, none⟩) n n] 29)).heap.size + 2)
    (B5 : Below (w4.alloc (.cells #[.bool true, .slice (some ⟨w3.heap.size + 1 + 1, 0, none⟩) m m] 29)).heap.size (w4.alloc (.cells #[.bool true, .slice (some ⟨w3.heap.size + 1 + 1, 0, none⟩) m m] 29)) w5) :
    ∃ s, Two w.heap.size ((w5.alloc (.cells #[.pointer (some ⟨w.heap.size + 1, 0, none⟩), .pointer (some ⟨w1.heap.size + 1, 0, none⟩)] 23)).alloc (.cells #[.pointer (some ⟨w3.heap.size, 0, none⟩), .pointer (some ⟨w4.heap.size, 0, none⟩)] 34)) w5.heap.size (w5.heap.size + 1) s ∧ Below w.heap.size w ((w5.alloc (.cells #[.pointer (some ⟨w.heap.size + 1, 0, none⟩), .pointer (some ⟨w1.heap.size + 1, 0, none⟩)] 23)).alloc (.cells #[.pointer (some ⟨w3.heap.size, 0, none⟩), .pointer (some ⟨w4.heap.size, 0, none⟩)] 34)) := by
  rw [World.size_alloc] at R2 Z4
  have B4' : Below (w3.heap.size + 1) (w3.alloc (.cells #[.bool true, .slice (some ⟨w2.heap.size + 1, 0, none⟩) n n] 29)) w4 := by rw [World.size_alloc] at B4; exact B4
  have B5' : Below (w4.heap.size + 1) (w4.alloc (.cells #[.bool true, .slice (some ⟨w3.heap.size + 1 + 1, 0, none⟩) m m] 29)) w5 := by rw [World.size_alloc] at B5; exact B5
  have e1 : (w3.alloc (.cells #[.bool true, .slice (some ⟨w2.heap.size + 1, 0, none⟩) n n] 29)).heap[w3.heap.size]? = some (.cells #[.bool true, .slice (some ⟨w2.heap.size + 1, 0, none⟩) n n] 29 (0, 0)) := World.alloc_heap_new _ _
  have e2 : (w4.alloc (.cells #[.bool true, .slice (some ⟨w3.heap.size + 1 + 1, 0, none⟩) m m] 29)).heap[w4.heap.size]? = some (.cells #[.bool true, .slice (some ⟨w3.heap.size + 1 + 1, 0, none⟩) m m] 29 (0, 0)) := World.alloc_heap_new _ _
  have a3 : Below w3.heap.size w3 (w3.alloc (.cells #[.bool true, .slice (some ⟨w2.heap.size + 1, 0, none⟩) n n] 29)) := (Below.refl _ _).alloc (Nat.le_refl _) _
  have a4 : Below w4.heap.size w4 (w4.alloc (.cells #[.bool true, .slice (some ⟨w3.heap.size + 1 + 1, 0, none⟩) m m] 29)) := (Below.refl _ _).alloc (Nat.le_refl _) _
  have P1 : RefAt (w3.alloc (.cells #[.bool true, .slice (some ⟨w2.heap.size + 1, 0, none⟩) n n] 29)) w3.heap.size (w2.heap.size + 1) n (List.replicate n false) := ⟨by rw [List.length_replicate]; exact e1, by rw [List.length_replicate]; exact below_row R1 a3 (Nat.le_refl _), by rw [List.length_replicate]; exact hn⟩
  have P2 : RefAt (w4.alloc (.cells #[.bool true, .slice (some ⟨w3.heap.size + 1 + 1, 0, none⟩) m m] 29)) w4.heap.size (w3.heap.size + 1 + 1) m (List.replicate m false) := ⟨by rw [List.length_replicate]; exact e2, by rw [List.length_replicate]; exact below_row R2 a4 (Nat.le_refl _), by rw [List.length_replicate]; exact hm⟩
  obtain ⟨X, hX⟩ : ∃ X, (w5.alloc (.cells #[.pointer (some ⟨w.heap.size + 1, 0, none⟩), .pointer (some ⟨w1.heap.size + 1, 0, none⟩)] 23)).alloc (.cells #[.pointer (some ⟨w3.heap.size, 0, none⟩), .pointer (some ⟨w4.heap.size, 0, none⟩)] 34) = X := ⟨_, rfl⟩
  have a5 : Below w5.heap.size w5 X := by rw [← hX]; exact ((Below.refl _ _).alloc (Nat.le_refl _) _).alloc (by rw [World.size_alloc]; omega) _
  have z5 := B5'.size
  have z4 := B4'.size
  have b45 : Below (w4.heap.size + 1) (w4.alloc (.cells #[.bool true, .slice (some ⟨w3.heap.size + 1 + 1, 0, none⟩) m m] 29)) X := B5'.trans (a5.mono (by have := B5'.size; rw [World.size_alloc] at this; exact this))
  rw [World.size_alloc] at z5 z4
  have b44 : Below w4.heap.size w4 X := a4.trans (b45.mono (by omega))
  have b33 : Below (w3.heap.size + 1) (w3.alloc (.cells #[.bool true, .slice (some ⟨w2.heap.size + 1, 0, none⟩) n n] 29)) X := B4'.trans (b44.mono z4)
  have b3 : Below w3.heap.size w3 X := a3.trans (b33.mono (by omega))
  have b2 : Below w2.heap.size w2 X := B3.trans (b3.mono B3.size)
  have b1 : Below w1.heap.size w1 X := B2.trans (b2.mono B2.size)
  have b0 : Below w.heap.size w X := B1.trans (b1.mono B1.size)
  have s1 := S1.below b1 S1.lt S1.glt
  have s2 := S2.below b2 S2.lt S2.glt
  have p1 := P1.below b33 (by omega) (by omega)
  have p2 := P2.below b45 (by omega) (by omega)
  have r1 := World.ownsRow_lit (base := w.heap.size) (e := 23) (size := 1) w5 #[.pointer (some ⟨w.heap.size + 1, 0, none⟩), .pointer (some ⟨w1.heap.size + 1, 0, none⟩)] 2 (by omega) (by unfold maxLen; omega) rfl
  have r2 := World.ownsRow_lit (base := w.heap.size) (e := 34) (size := 1) (w5.alloc (.cells #[.pointer (some ⟨w.heap.size + 1, 0, none⟩), .pointer (some ⟨w1.heap.size + 1, 0, none⟩)] 23)) #[.pointer (some ⟨w3.heap.size, 0, none⟩), .pointer (some ⟨w4.heap.size, 0, none⟩)] 2 (by rw [World.size_alloc]; omega) (by unfold maxLen; omega) rfl
  rw [World.size_alloc] at r2
  have r1' := below_row (w' := X) r1 (by rw [← hX]; exact (Below.refl _ _).alloc (Nat.le_refl _) _) (Nat.le_refl _)
  rw [hX] at r2 ⊢
  refine ⟨fun j => if j = 0 then ⟨w.heap.size + 1, w.heap.size, (n + 63) / 64, n, List.replicate ((n + 63) / 64) 0, w3.heap.size, w2.heap.size + 1, n, List.replicate n false⟩ else ⟨w1.heap.size + 1, w1.heap.size, (m + 63) / 64, m, List.replicate ((m + 63) / 64) 0, w4.heap.size, w3.heap.size + 1 + 1, m, List.replicate m false⟩, ⟨r1', r2, fun j hj => ?_, fun j hj => ?_, fun i j hi hj hne => ?_⟩, b0⟩
  · by_cases e : j = 0
    · rw [if_pos e]; exact ⟨s1, p1, Rel.zero n, List.length_replicate⟩
    · rw [if_neg e]; exact ⟨s2, p2, Rel.zero m, List.length_replicate⟩
  · by_cases e : j = 0
    · rw [if_pos e]; exact ⟨Nat.le_refl _, by show w.heap.size ≤ w2.heap.size + 1; omega⟩
    · rw [if_neg e]; exact ⟨by show w.heap.size ≤ w1.heap.size; omega, by show w.heap.size ≤ w3.heap.size + 1 + 1; omega⟩
  · by_cases e : i = 0
    · rw [if_pos e, if_neg (by omega)]; exact ⟨by show w.heap.size ≠ w1.heap.size; omega, by show w2.heap.size + 1 ≠ w3.heap.size + 1 + 1; omega⟩
    · rw [if_neg e, if_pos (by omega)]; exact ⟨by show w1.heap.size ≠ w.heap.size; omega, by show w3.heap.size + 1 + 1 ≠ w2.heap.size + 1; omega⟩

/-- A world in which the two pairs say what they say, and the call at hand lies as it was laid. -/
structure Wc (L : Nat) (w0 : World) (xb : Nat) (xs : Array Value) (sr : Nat) (s : Nat → Side) where
  val : World
  two : Two L val sr (sr + 1) s
  below : Below L w0 val
  x : val.heap[xb]? = some (Obj.cells xs 37 (0, 0))
theorem wp_region_play {P : Program} {id : Nat} {Q : Exit → Act → World → Prop} {a : Act} {w : World} {l : List Oper} {L : Nat} {w0 : World} {xb : Nat} {xs : Array Value} {sr : Nat} {s : Nat → Side} (hw : Two L w sr (sr + 1) s) (hb : Below L w0 w) (hx : w.heap[xb]? = some (Obj.cells xs 37 (0, 0))) (hm : P.follows .mixedOrders = true) (hB : Region.lexB .any l.toArray = true)
    (h : wpQuiet P l.toArray (fun w' => ∃ q : Wc L w0 xb xs sr s, w' = q.val) (fun a' => ∀ w', (∃ q : Wc L w0 xb xs sr s, w' = q.val) → Q .normal a' w') l a) : (Code.region id l.toArray true).wp P Q a w :=
  wp_region_quiet (C := fun w' => ∃ q : Wc L w0 xb xs sr s, w' = q.val) hm hB ⟨⟨_, hw.drewN 1, below_drewN hb 1, hx⟩, rfl⟩ (by simpa using h)
theorem Wc.ptr {L : Nat} {w0 : World} {xb : Nat} {xs : Array Value} {sr : Nat} {s : Nat → Side} (q : Wc L w0 xb xs sr s) (k : Nat) (hk : k < 2) : q.val.cell? ⟨sr, k, none⟩ = some (.pointer (some ⟨(s k).sb, 0, none⟩)) ∧ q.val.cell? ⟨sr + 1, k, none⟩ = some (.pointer (some ⟨(s k).pb, 0, none⟩)) := q.two.ptr k hk
theorem Wc.tells {w : World} {xb : Nat} {xs : Array Value} {sr : Nat} {s : Nat → Side} (ht : Tab w) (q : Wc w.heap.size w xb xs sr s) (j : Nat) (hj : j < 2) (i : Int) :
    Calls Tryd.prog 8 #[.pointer (some ⟨(s j).sb, 0, none⟩), .pointer (some ⟨(s j).pb, 0, none⟩), .int .i64 i] q.val fun e w' => e = .returned (.bool true) ∧ ∃ q' : Wc w.heap.size w xb xs sr s, w' = q'.val :=
  (tells_two q.two j hj i (ht.below q.below ht.lt) ht.lt).mono fun _ w' ⟨h1, h2, h3⟩ => ⟨h1, ⟨w', h2, below_gr q.below h3 (q.two.lo j hj).1 (Nat.le_refl _), keepC_row h3 (q.two.each j hj).set.row (by decide) _ _ q.x⟩, rfl⟩
theorem Wc.drew {L : Nat} {w0 : World} {xb : Nat} {xs : Array Value} {sr : Nat} {s : Nat → Side} (q : Wc L w0 xb xs sr s) (m : Nat) : ∃ q' : Wc L w0 xb xs sr s, q.val.drewN m = q'.val := ⟨⟨_, q.two.drewN m, below_drewN q.below m, q.x⟩, rfl⟩
theorem Wc.within {L : Nat} {w0 : World} {xb : Nat} {xs : Array Value} {sr : Nat} {s : Nat → Side} (q : Wc L w0 xb xs sr s) (i j : Nat) (hi : i < 2) (hj : j < 2) :
    Calls Tryd.prog 9 #[.pointer (some ⟨(s i).sb, 0, none⟩), .pointer (some ⟨(s j).sb, 0, none⟩)] q.val fun e w' => e = .returned (.bool (winB (s i) (s j))) ∧ ∃ q' : Wc L w0 xb xs sr s, w' = q'.val :=
  (within_any (q.two.each i hi) (q.two.each j hj)).mono fun _ _ ⟨h1, m, h2⟩ => ⟨h1, by rw [h2]; exact q.drew m⟩
theorem Wc.refWithin {L : Nat} {w0 : World} {xb : Nat} {xs : Array Value} {sr : Nat} {s : Nat → Side} (q : Wc L w0 xb xs sr s) (i j : Nat) (hi : i < 2) (hj : j < 2) :
    Calls Tryd.prog 10 #[.pointer (some ⟨(s i).pb, 0, none⟩), .pointer (some ⟨(s j).pb, 0, none⟩)] q.val fun e w' => e = .returned (.bool (winB (s i) (s j))) ∧ ∃ q' : Wc L w0 xb xs sr s, w' = q'.val :=
  (refWithin_any (q.two.each i hi) (q.two.each j hj)).mono fun _ _ ⟨h1, m, h2⟩ => ⟨h1, by rw [h2]; exact q.drew m⟩
theorem Wc.same {L : Nat} {w0 : World} {xb : Nat} {xs : Array Value} {sr : Nat} {s : Nat → Side} (q : Wc L w0 xb xs sr s) (i j : Nat) (hi : i < 2) (hj : j < 2) :
    Calls Tryd.prog 11 #[.pointer (some ⟨(s i).sb, 0, none⟩), .pointer (some ⟨(s j).sb, 0, none⟩)] q.val fun e w' => e = .returned (.bool (winB (s i) (s j) && winB (s j) (s i))) ∧ ∃ q' : Wc L w0 xb xs sr s, w' = q'.val :=
  (same_any (q.two.each i hi) (q.two.each j hj)).mono fun _ _ ⟨h1, m, h2⟩ => ⟨h1, by rw [h2]; exact q.drew m⟩

set_option maxRecDepth 100000 in
set_option maxHeartbeats 16000000 in
theorem bitsPlay_yy (n m : Nat) (hn : n ≤ 4096) (hm : m ≤ 4096) (v : Value) (l : List Cl) (w : World) (ht : Tab w) (hv : CallsAt w w.heap.size v l) (hl : l.length ≤ 1048576) :
    Calls Tryd.prog 3 #[.int .i64 (n : Int), .int .i64 (m : Int), v] w fun e w' => e = .returned (.bool true) ∧ Below w.heap.size w w' := by
  have HV := hide hv
  have HT := hide ht
  have hgt := ht.lt
  obtain ⟨a, c, rfl, _⟩ := hv
  have N1 := hide (new_k n hn w)
  have N2 := hide (fun W => new_k m hm W)
  have R1 := hide (fun W => refNew_k n hn W)
  have R2 := hide (fun W => refNew_k m hm W)
  have HN := hide hn
  have HM := hide hm
  have HH := hide (fun W b => heads_k W (ht.below (w := w) b ht.lt))
  have B0 := hide (Below.refl w.heap.size w)
  clear hn hm ht
  go_enter Tryd.func3, Tryd.ntmps3
  go_wp2_with (first
    | (go_at_call 4; refine N1.out.mono ?_; clear N1; rintro e w1 ⟨rfl, A1, A2, A3⟩; have S1 := hide A1; have B1 := hide A2; have Z1 := hide A3; clear A1 A2 A3)
    | (go_at_call 4; refine (N2.out _).mono ?_; clear N2; rintro e w2 ⟨rfl, A1, A2, A3⟩; have S2 := hide A1; have B2 := hide A2; have Z2 := hide A3; have C2 := hide (trans_b B1.out A2); clear A1 A2 A3)
    | (go_at_call 5; refine (R1.out _).mono ?_; clear R1; rintro e w3 ⟨rfl, A1, A2, A3⟩; have S3 := hide A1; have B3 := hide A2; have Z3 := hide A3; have C3 := hide (trans_b C2.out A2); clear A1 A2 A3)
    | (go_at_call 5; refine (R2.out _).mono ?_; clear R2; rintro e w4 ⟨rfl, A1, A2, A3⟩; have S4 := hide A1; have B4 := hide A2; have Z4 := hide A3; have C4 := hide (trans_b (alloc_b C3.out _) A2); clear A1 A2 A3)
    | (go_at_call 6; refine (HH.out _ (alloc_b C4.out _)).mono ?_; clear HH; rintro e w5 ⟨rfl, A2⟩; have B5 := hide A2; clear A2))
  obtain ⟨s0, T0, D0⟩ := two_made S1.out B1.out Z1.out S2.out B2.out Z2.out S3.out HN.out B3.out Z3.out S4.out HM.out B4.out Z4.out B5.out
  generalize w5.heap.size = sr at *
  clear S1 B1 Z1 S2 B2 Z2 S3 B3 Z3 S4 B4 Z4 B5 C2 C3 C4 HN HM B0
  go_loopw [17] (fun i wr => ∃ (k : Nat) (s : Nat → Side), k ≤ l.length ∧ i = .int .i64 k ∧ Two w.heap.size wr sr (sr + 1) s ∧ Below w.heap.size w wr) (fun i _ => l.length - (intOf i).toNat)
  case atStart => exact ⟨0, s0, Nat.zero_le _, rfl, T0, D0⟩
  case round =>
    clear T0 D0
    obtain ⟨k, s, hk, rfl, hT, hB⟩ := hrel
    by_cases hlt : k < l.length
    · obtain ⟨a', c', ea, hc⟩ := HV.out.below hB
      simp only [Value.slice.injEq, true_and] at ea
      obtain ⟨rfl, rfl⟩ := ea
      obtain ⟨b', off, rfl, _, q0, q1, q2, q3⟩ := hc k hlt
      clear hc
      generalize l[k] = cl at q0 q1 q2 q3
      obtain ⟨kd, on, x, ot⟩ := cl
      simp only at q0 q1 q2 q3
      have b1 : Below wr.heap.size wr (wr.alloc (.cells #[.int .i64 kd, .int .i64 on, .int .i64 x, .bool ot] 37)) := (Below.refl _ _).alloc (Nat.le_refl _) _
      have T1 := hT.below b1
      have hx : (wr.alloc (.cells #[.int .i64 kd, .int .i64 on, .int .i64 x, .bool ot] 37)).heap[wr.heap.size]? = some (.cells #[.int .i64 kd, .int .i64 on, .int .i64 x, .bool ot] 37 (0, 0)) := World.alloc_heap_new _ _
      have hL1 : w.heap.size ≤ (wr.alloc (.cells #[.int .i64 kd, .int .i64 on, .int .i64 x, .bool ot] 37)).heap.size := Nat.le_trans hB.size b1.size
      have D1 := hide (hB.trans (b1.mono hB.size))
      have HX := hide hx
      have HD := hide (fun (kk oo : Nat) (h1 : kk < 2) (h2 : oo < 2) => does_any T1 hL1 kk oo h1 h2 kd on x ot)
      have HL := hide hL1
      clear hx T1 hT hB b1 hL1
      by_cases hon : on = 1
      · subst hon
        cases ot
        case' true =>
          have HE := hide (show Calls Tryd.prog 7 #[.slice (some ⟨sr, 0, none⟩) 2 2, .slice (some ⟨sr + 1, 0, none⟩) 2 2, .agg #[.int .i64 kd, .int .i64 1, .int .i64 x, .bool true], .int .i64 1, .int .i64 0] (wr.alloc (.cells #[.int .i64 kd, .int .i64 1, .int .i64 x, .bool true] 37)) _ from HD.out 1 0 (by decide) (by decide))
          clear HD
          go_wp2_with (go_at_call 7; refine HE.out.mono ?_; clear HE; rintro e w2 ⟨rfl, s2, A1, _, A2, A3⟩; have T2 := hide A1; have D2 := hide (D1.out.trans A2); have X2 := hide (A3 _ _ HX.out); clear A1 A2 A3)
          have HE := hide (fun (q : Wc w.heap.size w wr.heap.size #[.int .i64 kd, .int .i64 1, .int .i64 x, .bool true] sr s2) (j : Nat) (hj : j < 2) => q.tells HT.out j hj x)
          have HW := hide (fun (q : Wc w.heap.size w wr.heap.size #[.int .i64 kd, .int .i64 1, .int .i64 x, .bool true] sr s2) (i j : Nat) (hi : i < 2) (hj : j < 2) => q.within i j hi hj)
          have HS := hide (fun (q : Wc w.heap.size w wr.heap.size #[.int .i64 kd, .int .i64 1, .int .i64 x, .bool true] sr s2) (i j : Nat) (hi : i < 2) (hj : j < 2) => q.same i j hi hj)
          have HR := hide (fun (q : Wc w.heap.size w wr.heap.size #[.int .i64 kd, .int .i64 1, .int .i64 x, .bool true] sr s2) (i j : Nat) (hi : i < 2) (hj : j < 2) => q.refWithin i j hi hj)
          have d1 : ∀ q : Wc w.heap.size w wr.heap.size #[.int .i64 kd, .int .i64 1, .int .i64 x, .bool true] sr s2, q.val.cell? ⟨sr, 0, none⟩ = some (.pointer (some ⟨(s2 0).sb, 0, none⟩)) := fun q => (q.ptr 0 (by decide)).1
          have d2 : ∀ q : Wc w.heap.size w wr.heap.size #[.int .i64 kd, .int .i64 1, .int .i64 x, .bool true] sr s2, q.val.cell? ⟨sr + 1, 0, none⟩ = some (.pointer (some ⟨(s2 0).pb, 0, none⟩)) := fun q => (q.ptr 0 (by decide)).2
          have d3 : ∀ q : Wc w.heap.size w wr.heap.size #[.int .i64 kd, .int .i64 1, .int .i64 x, .bool true] sr s2, q.val.cell? ⟨sr, 1, none⟩ = some (.pointer (some ⟨(s2 1).sb, 0, none⟩)) := fun q => (q.ptr 1 (by decide)).1
          have d4 : ∀ q : Wc w.heap.size w wr.heap.size #[.int .i64 kd, .int .i64 1, .int .i64 x, .bool true] sr s2, q.val.cell? ⟨sr + 1, 1, none⟩ = some (.pointer (some ⟨(s2 1).pb, 0, none⟩)) := fun q => (q.ptr 1 (by decide)).2
          have d5 : ∀ q : Wc w.heap.size w wr.heap.size #[.int .i64 kd, .int .i64 1, .int .i64 x, .bool true] sr s2, q.val.cell? ⟨wr.heap.size, 2, none⟩ = some (.int .i64 x) := fun q => by simp [World.cell?, q.x]
          have hany : Nonempty (Wc w.heap.size w wr.heap.size #[.int .i64 kd, .int .i64 1, .int .i64 x, .bool true] sr s2) := ⟨⟨w2, T2.out, D2.out, X2.out⟩⟩
          clear q0 q1 q2 q3
          cases hu : winB (s2 1) (s2 0)
          all_goals
            refine wp_region_play T2.out D2.out X2.out (by kernel_rfl) (lex_of lex22 (by kernel_rfl)) ?_
            dsimp only [List.append_eq, List.cons_append, List.nil_append]
            repeat (go_big_quiet_step ((first
              | (go_at_call 8; exact HE.out _ _ (by decide))
              | (go_at_call 9; exact HW.out _ _ _ (by decide) (by decide))
              | (go_at_call 10; refine (HR.out _ _ _ (by decide) (by decide)).mono ?_; rw [hu]; exact fun _ _ h => h)
              | (go_at_call 10; exact HR.out _ _ _ (by decide) (by decide))
              | (go_at_call 11; exact HS.out _ _ _ (by decide) (by decide)))))
            refine wpQuiet_nil ?_
            intro _ hw'
            obtain ⟨q, rfl⟩ := hw'
            go_wp2
            go_roundw
            case rel => exact ⟨k + 1, s2, by omega, by go_num, q.two, q.below⟩
            case measure => simp [intOf]; omega
        case' false =>
          have HE := hide (show Calls Tryd.prog 7 #[.slice (some ⟨sr, 0, none⟩) 2 2, .slice (some ⟨sr + 1, 0, none⟩) 2 2, .agg #[.int .i64 kd, .int .i64 1, .int .i64 x, .bool false], .int .i64 1, .int .i64 1] (wr.alloc (.cells #[.int .i64 kd, .int .i64 1, .int .i64 x, .bool false] 37)) _ from HD.out 1 1 (by decide) (by decide))
          clear HD
          go_wp2_with (go_at_call 7; refine HE.out.mono ?_; clear HE; rintro e w2 ⟨rfl, s2, A1, _, A2, A3⟩; have T2 := hide A1; have D2 := hide (D1.out.trans A2); have X2 := hide (A3 _ _ HX.out); clear A1 A2 A3)
          have HE := hide (fun (q : Wc w.heap.size w wr.heap.size #[.int .i64 kd, .int .i64 1, .int .i64 x, .bool false] sr s2) (j : Nat) (hj : j < 2) => q.tells HT.out j hj x)
          have HW := hide (fun (q : Wc w.heap.size w wr.heap.size #[.int .i64 kd, .int .i64 1, .int .i64 x, .bool false] sr s2) (i j : Nat) (hi : i < 2) (hj : j < 2) => q.within i j hi hj)
          have HS := hide (fun (q : Wc w.heap.size w wr.heap.size #[.int .i64 kd, .int .i64 1, .int .i64 x, .bool false] sr s2) (i j : Nat) (hi : i < 2) (hj : j < 2) => q.same i j hi hj)
          have HR := hide (fun (q : Wc w.heap.size w wr.heap.size #[.int .i64 kd, .int .i64 1, .int .i64 x, .bool false] sr s2) (i j : Nat) (hi : i < 2) (hj : j < 2) => q.refWithin i j hi hj)
          have d1 : ∀ q : Wc w.heap.size w wr.heap.size #[.int .i64 kd, .int .i64 1, .int .i64 x, .bool false] sr s2, q.val.cell? ⟨sr, 0, none⟩ = some (.pointer (some ⟨(s2 0).sb, 0, none⟩)) := fun q => (q.ptr 0 (by decide)).1
          have d2 : ∀ q : Wc w.heap.size w wr.heap.size #[.int .i64 kd, .int .i64 1, .int .i64 x, .bool false] sr s2, q.val.cell? ⟨sr + 1, 0, none⟩ = some (.pointer (some ⟨(s2 0).pb, 0, none⟩)) := fun q => (q.ptr 0 (by decide)).2
          have d3 : ∀ q : Wc w.heap.size w wr.heap.size #[.int .i64 kd, .int .i64 1, .int .i64 x, .bool false] sr s2, q.val.cell? ⟨sr, 1, none⟩ = some (.pointer (some ⟨(s2 1).sb, 0, none⟩)) := fun q => (q.ptr 1 (by decide)).1
          have d4 : ∀ q : Wc w.heap.size w wr.heap.size #[.int .i64 kd, .int .i64 1, .int .i64 x, .bool false] sr s2, q.val.cell? ⟨sr + 1, 1, none⟩ = some (.pointer (some ⟨(s2 1).pb, 0, none⟩)) := fun q => (q.ptr 1 (by decide)).2
          have d5 : ∀ q : Wc w.heap.size w wr.heap.size #[.int .i64 kd, .int .i64 1, .int .i64 x, .bool false] sr s2, q.val.cell? ⟨wr.heap.size, 2, none⟩ = some (.int .i64 x) := fun q => by simp [World.cell?, q.x]
          have hany : Nonempty (Wc w.heap.size w wr.heap.size #[.int .i64 kd, .int .i64 1, .int .i64 x, .bool false] sr s2) := ⟨⟨w2, T2.out, D2.out, X2.out⟩⟩
          clear q0 q1 q2 q3
          cases hu : winB (s2 1) (s2 1)
          all_goals
            refine wp_region_play T2.out D2.out X2.out (by kernel_rfl) (lex_of lex22 (by kernel_rfl)) ?_
            dsimp only [List.append_eq, List.cons_append, List.nil_append]
            repeat (go_big_quiet_step ((first
              | (go_at_call 8; exact HE.out _ _ (by decide))
              | (go_at_call 9; exact HW.out _ _ _ (by decide) (by decide))
              | (go_at_call 10; refine (HR.out _ _ _ (by decide) (by decide)).mono ?_; rw [hu]; exact fun _ _ h => h)
              | (go_at_call 10; exact HR.out _ _ _ (by decide) (by decide))
              | (go_at_call 11; exact HS.out _ _ _ (by decide) (by decide)))))
            refine wpQuiet_nil ?_
            intro _ hw'
            obtain ⟨q, rfl⟩ := hw'
            go_wp2
            go_roundw
            case rel => exact ⟨k + 1, s2, by omega, by go_num, q.two, q.below⟩
            case measure => simp [intOf]; omega
      · have hon1 : (on == 1) = false := by simp [hon]
        cases ot
        case' true =>
          have HE := hide (show Calls Tryd.prog 7 #[.slice (some ⟨sr, 0, none⟩) 2 2, .slice (some ⟨sr + 1, 0, none⟩) 2 2, .agg #[.int .i64 kd, .int .i64 on, .int .i64 x, .bool true], .int .i64 0, .int .i64 1] (wr.alloc (.cells #[.int .i64 kd, .int .i64 on, .int .i64 x, .bool true] 37)) _ from HD.out 0 1 (by decide) (by decide))
          clear HD
          go_wp2_with (go_at_call 7; refine HE.out.mono ?_; clear HE; rintro e w2 ⟨rfl, s2, A1, _, A2, A3⟩; have T2 := hide A1; have D2 := hide (D1.out.trans A2); have X2 := hide (A3 _ _ HX.out); clear A1 A2 A3)
          have HE := hide (fun (q : Wc w.heap.size w wr.heap.size #[.int .i64 kd, .int .i64 on, .int .i64 x, .bool true] sr s2) (j : Nat) (hj : j < 2) => q.tells HT.out j hj x)
          have HW := hide (fun (q : Wc w.heap.size w wr.heap.size #[.int .i64 kd, .int .i64 on, .int .i64 x, .bool true] sr s2) (i j : Nat) (hi : i < 2) (hj : j < 2) => q.within i j hi hj)
          have HS := hide (fun (q : Wc w.heap.size w wr.heap.size #[.int .i64 kd, .int .i64 on, .int .i64 x, .bool true] sr s2) (i j : Nat) (hi : i < 2) (hj : j < 2) => q.same i j hi hj)
          have HR := hide (fun (q : Wc w.heap.size w wr.heap.size #[.int .i64 kd, .int .i64 on, .int .i64 x, .bool true] sr s2) (i j : Nat) (hi : i < 2) (hj : j < 2) => q.refWithin i j hi hj)
          have d1 : ∀ q : Wc w.heap.size w wr.heap.size #[.int .i64 kd, .int .i64 on, .int .i64 x, .bool true] sr s2, q.val.cell? ⟨sr, 0, none⟩ = some (.pointer (some ⟨(s2 0).sb, 0, none⟩)) := fun q => (q.ptr 0 (by decide)).1
          have d2 : ∀ q : Wc w.heap.size w wr.heap.size #[.int .i64 kd, .int .i64 on, .int .i64 x, .bool true] sr s2, q.val.cell? ⟨sr + 1, 0, none⟩ = some (.pointer (some ⟨(s2 0).pb, 0, none⟩)) := fun q => (q.ptr 0 (by decide)).2
          have d3 : ∀ q : Wc w.heap.size w wr.heap.size #[.int .i64 kd, .int .i64 on, .int .i64 x, .bool true] sr s2, q.val.cell? ⟨sr, 1, none⟩ = some (.pointer (some ⟨(s2 1).sb, 0, none⟩)) := fun q => (q.ptr 1 (by decide)).1
          have d4 : ∀ q : Wc w.heap.size w wr.heap.size #[.int .i64 kd, .int .i64 on, .int .i64 x, .bool true] sr s2, q.val.cell? ⟨sr + 1, 1, none⟩ = some (.pointer (some ⟨(s2 1).pb, 0, none⟩)) := fun q => (q.ptr 1 (by decide)).2
          have d5 : ∀ q : Wc w.heap.size w wr.heap.size #[.int .i64 kd, .int .i64 on, .int .i64 x, .bool true] sr s2, q.val.cell? ⟨wr.heap.size, 2, none⟩ = some (.int .i64 x) := fun q => by simp [World.cell?, q.x]
          have hany : Nonempty (Wc w.heap.size w wr.heap.size #[.int .i64 kd, .int .i64 on, .int .i64 x, .bool true] sr s2) := ⟨⟨w2, T2.out, D2.out, X2.out⟩⟩
          clear q0 q1 q2 q3
          cases hu : winB (s2 0) (s2 1)
          all_goals
            refine wp_region_play T2.out D2.out X2.out (by kernel_rfl) (lex_of lex22 (by kernel_rfl)) ?_
            dsimp only [List.append_eq, List.cons_append, List.nil_append]
            repeat (go_big_quiet_step ((first
              | (go_at_call 8; exact HE.out _ _ (by decide))
              | (go_at_call 9; exact HW.out _ _ _ (by decide) (by decide))
              | (go_at_call 10; refine (HR.out _ _ _ (by decide) (by decide)).mono ?_; rw [hu]; exact fun _ _ h => h)
              | (go_at_call 10; exact HR.out _ _ _ (by decide) (by decide))
              | (go_at_call 11; exact HS.out _ _ _ (by decide) (by decide)))))
            refine wpQuiet_nil ?_
            intro _ hw'
            obtain ⟨q, rfl⟩ := hw'
            go_wp2
            go_roundw
            case rel => exact ⟨k + 1, s2, by omega, by go_num, q.two, q.below⟩
            case measure => simp [intOf]; omega
        case' false =>
          have HE := hide (show Calls Tryd.prog 7 #[.slice (some ⟨sr, 0, none⟩) 2 2, .slice (some ⟨sr + 1, 0, none⟩) 2 2, .agg #[.int .i64 kd, .int .i64 on, .int .i64 x, .bool false], .int .i64 0, .int .i64 0] (wr.alloc (.cells #[.int .i64 kd, .int .i64 on, .int .i64 x, .bool false] 37)) _ from HD.out 0 0 (by decide) (by decide))
          clear HD
          go_wp2_with (go_at_call 7; refine HE.out.mono ?_; clear HE; rintro e w2 ⟨rfl, s2, A1, _, A2, A3⟩; have T2 := hide A1; have D2 := hide (D1.out.trans A2); have X2 := hide (A3 _ _ HX.out); clear A1 A2 A3)
          have HE := hide (fun (q : Wc w.heap.size w wr.heap.size #[.int .i64 kd, .int .i64 on, .int .i64 x, .bool false] sr s2) (j : Nat) (hj : j < 2) => q.tells HT.out j hj x)
          have HW := hide (fun (q : Wc w.heap.size w wr.heap.size #[.int .i64 kd, .int .i64 on, .int .i64 x, .bool false] sr s2) (i j : Nat) (hi : i < 2) (hj : j < 2) => q.within i j hi hj)
          have HS := hide (fun (q : Wc w.heap.size w wr.heap.size #[.int .i64 kd, .int .i64 on, .int .i64 x, .bool false] sr s2) (i j : Nat) (hi : i < 2) (hj : j < 2) => q.same i j hi hj)
          have HR := hide (fun (q : Wc w.heap.size w wr.heap.size #[.int .i64 kd, .int .i64 on, .int .i64 x, .bool false] sr s2) (i j : Nat) (hi : i < 2) (hj : j < 2) => q.refWithin i j hi hj)
          have d1 : ∀ q : Wc w.heap.size w wr.heap.size #[.int .i64 kd, .int .i64 on, .int .i64 x, .bool false] sr s2, q.val.cell? ⟨sr, 0, none⟩ = some (.pointer (some ⟨(s2 0).sb, 0, none⟩)) := fun q => (q.ptr 0 (by decide)).1
          have d2 : ∀ q : Wc w.heap.size w wr.heap.size #[.int .i64 kd, .int .i64 on, .int .i64 x, .bool false] sr s2, q.val.cell? ⟨sr + 1, 0, none⟩ = some (.pointer (some ⟨(s2 0).pb, 0, none⟩)) := fun q => (q.ptr 0 (by decide)).2
          have d3 : ∀ q : Wc w.heap.size w wr.heap.size #[.int .i64 kd, .int .i64 on, .int .i64 x, .bool false] sr s2, q.val.cell? ⟨sr, 1, none⟩ = some (.pointer (some ⟨(s2 1).sb, 0, none⟩)) := fun q => (q.ptr 1 (by decide)).1
          have d4 : ∀ q : Wc w.heap.size w wr.heap.size #[.int .i64 kd, .int .i64 on, .int .i64 x, .bool false] sr s2, q.val.cell? ⟨sr + 1, 1, none⟩ = some (.pointer (some ⟨(s2 1).pb, 0, none⟩)) := fun q => (q.ptr 1 (by decide)).2
          have d5 : ∀ q : Wc w.heap.size w wr.heap.size #[.int .i64 kd, .int .i64 on, .int .i64 x, .bool false] sr s2, q.val.cell? ⟨wr.heap.size, 2, none⟩ = some (.int .i64 x) := fun q => by simp [World.cell?, q.x]
          have hany : Nonempty (Wc w.heap.size w wr.heap.size #[.int .i64 kd, .int .i64 on, .int .i64 x, .bool false] sr s2) := ⟨⟨w2, T2.out, D2.out, X2.out⟩⟩
          clear q0 q1 q2 q3
          cases hu : winB (s2 0) (s2 0)
          all_goals
            refine wp_region_play T2.out D2.out X2.out (by kernel_rfl) (lex_of lex22 (by kernel_rfl)) ?_
            dsimp only [List.append_eq, List.cons_append, List.nil_append]
            repeat (go_big_quiet_step ((first
              | (go_at_call 8; exact HE.out _ _ (by decide))
              | (go_at_call 9; exact HW.out _ _ _ (by decide) (by decide))
              | (go_at_call 10; refine (HR.out _ _ _ (by decide) (by decide)).mono ?_; rw [hu]; exact fun _ _ h => h)
              | (go_at_call 10; exact HR.out _ _ _ (by decide) (by decide))
              | (go_at_call 11; exact HS.out _ _ _ (by decide) (by decide)))))
            refine wpQuiet_nil ?_
            intro _ hw'
            obtain ⟨q, rfl⟩ := hw'
            go_wp2
            go_roundw
            case rel => exact ⟨k + 1, s2, by omega, by go_num, q.two, q.below⟩
            case measure => simp [intOf]; omega
    · go_wp2
      go_ret
      exact ⟨rfl, hB⟩

theorem bitsPlay_walk (i j : Int) (v : Value) (l : List Cl) (w : World) (ht : Tab w) (hv : CallsAt w w.heap.size v l) (hl : l.length ≤ 1048576) :
    Calls Tryd.prog 3 #[.int .i64 i, .int .i64 j, v] w fun e w' => e = .returned (.bool true) ∧ Below w.heap.size w w' := by
  by_cases hi : i < 0 ∨ 4096 < i
  · by_cases hj : j < 0 ∨ 4096 < j
    · exact bitsPlay_nn i hi j hj v w ht
    · obtain ⟨m, rfl⟩ : ∃ m : Nat, j = (m : Int) := ⟨j.toNat, by omega⟩
      exact bitsPlay_ny i hi m (by omega) v w ht
  · obtain ⟨n, rfl⟩ : ∃ n : Nat, i = (n : Int) := ⟨i.toNat, by omega⟩
    by_cases hj : j < 0 ∨ 4096 < j
    · exact bitsPlay_yn n (by omega) j hj v w ht
    · obtain ⟨m, rfl⟩ : ∃ m : Nat, j = (m : Int) := ⟨j.toNat, by omega⟩
      exact bitsPlay_yy n m (by omega) (by omega) v l w ht hv hl
end Go.Proofs.YtfagjejknnkhdaaDoor
