/- What within goes through: a value and all that is in it. -/
import Derived.Test.YtmgmndhibcgpdaaGreatDoorZVRange
import Derived.Test.YtmgmndhibcgpdaaGreatDoorZVMake
import Derived.Laws.EntriesVeiled
namespace Go.Proofs.YtmgmndhibcgpdaaGreatDoor
open Go.RowKit
attribute [local go_sem] Oper.semAt_some

/-- A value and all that is in it; n bounds how deep. -/
def partsF : Nat → Vl → List Vl
  | 0, _ => []
  | n + 1, v => v :: (v.items.map (partsF n)).flatten
def partsV (v : Vl) : List Vl := partsF v.size v
theorem partsF_more (n : Nat) : ∀ (m : Nat) (v : Vl), v.size ≤ n → n ≤ m → partsF m v = partsF n v := by
  induction n with
  | zero => intro m v h _; have := v.size_pos; omega
  | succ n ih =>
    intro m v h hm
    cases m with
    | zero => omega
    | succ m =>
      have e : v.items.map (partsF m) = v.items.map (partsF n) := List.map_congr_left fun x hx => ih m x (by have := Vl.size_item hx; omega) (by omega)
      rw [partsF, partsF, e]
theorem partsV_eq (v : Vl) : partsV v = v :: (v.items.map partsV).flatten := by
  have h0 := v.size_pos
  unfold partsV
  obtain ⟨n, hn⟩ : ∃ n, v.size = n + 1 := ⟨v.size - 1, by omega⟩
  have e : v.items.map (partsF n) = v.items.map (fun v => partsF v.size v) := List.map_congr_left fun x hx => partsF_more x.size n x (Nat.le_refl _) (by have := Vl.size_item hx; omega)
  rw [hn, partsF, e]
theorem partsV_len (n : Nat) : ∀ v : Vl, v.size ≤ n → (partsV v).length = v.size := by
  induction n with
  | zero => intro v h; have := v.size_pos; omega
  | succ n ih =>
    intro v h
    rw [partsV_eq, List.length_cons, List.length_flatten, List.map_map, Vl.size_eq v]
    congr 2
    exact List.map_congr_left fun x hx => ih x (by have := Vl.size_item hx; omega)
theorem parts_take (l : List Vl) (k : Nat) (h : k < l.length) : ((l.take (k + 1)).map partsV).flatten = ((l.take k).map partsV).flatten ++ partsV l[k] := by
  rw [List.take_succ_eq_append_getElem h, List.map_append, List.flatten_append]
  simp
theorem parts_split (l : List Vl) (k : Nat) (h : k < l.length) : (l.map partsV).flatten = ((l.take k).map partsV).flatten ++ (partsV l[k] ++ ((l.drop (k + 1)).map partsV).flatten) := by
  have e : l = l.take k ++ l[k] :: l.drop (k + 1) := by rw [← List.drop_eq_getElem_cons h, List.take_append_drop]
  have : (l.map partsV).flatten = ((l.take k ++ l[k] :: l.drop (k + 1)).map partsV).flatten := by rw [← e]
  rw [this, List.map_append, List.flatten_append, List.map_cons, List.flatten_cons]
/-- How a part is handed to a round. -/
def encP (B : Nat) (x : Vl) (S : Blocks) (vs : Array Value) (W : World) : Prop := ∃ n sl, vs = #[.agg (vcells x sl)] ∧ ItemsAt W B n sl x.items ∧ x.ok ∧ ∀ k, S k → k < W.heap.size
theorem yield_any {m m' : Nat} {P : Program} {l : Nat} {args : Array Value} {W : World} {R : Ending → World → Prop} (h : YieldAt Fence.wide m P l args W R) : YieldAt Fence.wide m' P l args W R := by
  obtain ⟨fn, tmps, assign, body, h1, h2⟩ := h
  exact ⟨fn, tmps, assign, body, h1, h2.1, fun c cs _ => h2.2 c cs (room_wide _)⟩
theorem items_keptP {B : Nat} {C : Nat} {S : Blocks} {W W' : World} {n : Nat} {sl : Value} {its : List Vl} (h : ItemsAt W C n sl its) (hk : KeptP B (fun k => k < C) S W W') (hC : C ≤ W.heap.size) : ItemsAt W' C n sl its :=
  h.kept fun b o hb => World.cell?_of_block (by
    have hlt : b < W.heap.size := by omega
    have e : W.heap[b]? = some W.heap[b] := Array.getElem?_eq_getElem hlt
    exact (hk.box b _ hb e).trans e.symm)
theorem KeptP.sub {B : Nat} {K S S' : Blocks} {W W' : World} (h : KeptP B K S' W W') (hs : ∀ k, S k → S' k) : KeptP B K S W W' := ⟨h.size, h.other, h.box, fun k o hk ho => h.own k o (hs k hk) ho⟩
/-- What a call of the inner function owes, within one ranging. -/
def DownC (l : Nat) (D B yb db : Nat) (xs : List Vl) (J Jx : List Vl → Blocks → World → Prop) (n : Nat) : Prop :=
  ∀ (v : Vl) (pre post : List Vl) (W : World) (S : Blocks) (sl : Value) (m : Nat), xs = pre ++ (partsV v ++ post) → J pre S W → ItemsAt W B n sl v.items → v.ok → v.size ≤ 1000000000 → B ≤ W.heap.size → (∀ k, S k → k < W.heap.size) → S yb → S db →
    Boxed W yb 50 (.func (.yield l) #[] #[]) → Boxed W db 50 (.func (.func 94) #[] #[.pointer (some ⟨yb, 0, none⟩), .pointer (some ⟨db, 0, none⟩)]) →
    CallsIn Fence.wide m Tryz.prog 94 #[.agg (vcells v sl), .pointer (some ⟨yb, 0, none⟩), .pointer (some ⟨db, 0, none⟩)] W fun e W' =>
      (e = .returned (.bool true) ∧ ∃ S', (∀ k, S k → S' k) ∧ J (pre ++ partsV v) S' W' ∧ KeptP D (fun k => k < B) S W W' ∧ ∀ k, S' k → k < W'.heap.size) ∨ (e = .returned (.bool false) ∧ ∃ S' p x q, xs = p ++ x :: q ∧ Jx (p ++ [x]) S' W')
set_option maxRecDepth 100000 in
set_option maxHeartbeats 4000000 in
theorem down_step {l D B yb db : Nat} {xs : List Vl} {J Jx : List Vl → Blocks → World → Prop} (hJ : OwnJ J) (hY : ∀ pre x S vs W1 m, J pre S W1 → (∃ post, xs = pre ++ x :: post) → encP B x S vs W1 → YieldAt Fence.wide m Tryz.prog l vs W1 fun e W' =>
      (e = .returned (.bool true) ∧ J (pre ++ [x]) S W' ∧ KeptP D (fun k => k < B) S W1 W') ∨ (e = .returned (.bool false) ∧ Jx (pre ++ [x]) S W')) {n : Nat} (hC : DownC l D B yb db xs J Jx n) : DownC l D B yb db xs J Jx (n + 1) := by
  intro v pre post W S sl m hxs hJ0 hi hok hsz hB hS hSy hSd hy hd
  obtain ⟨a, c, rfl, hla⟩ := hi.len
  unfold maxLen at hla
  obtain ⟨X, hX⟩ : ∃ X, W.alloc (.cells (vcells v (.slice a v.items.length c)) 25) = X := ⟨_, rfl⟩
  have bX : Below W.heap.size W X := by rw [← hX]; exact alloc_v (Below.refl _ _) _
  have zX : X.heap.size = W.heap.size + 1 := by rw [← hX]; simp
  have e1 : X.heap[W.heap.size]? = some (.cells (vcells v (.slice a v.items.length c)) 25 (0, 0)) := by rw [← hX]; exact World.alloc_heap_new W _
  have hJX : J pre (fun k => S k ∨ k = W.heap.size) X := hJ.below (hJ.claim _ S _ W hJ0 (fun k hk => by rcases hk with h | h; exact .inl h; exact .inr (by omega))) bX
  have hxv : ∃ post', xs = pre ++ v :: post' := ⟨(v.items.map partsV).flatten ++ post, by rw [hxs, partsV_eq]; simp⟩
  obtain ⟨fn, tmps, assign, body, hyy, hR⟩ := hY pre v (fun k => S k ∨ k = W.heap.size) #[.agg (vcells v (.slice a v.items.length c))] X (m - 1) hJX hxv ⟨n + 1, _, rfl, hi.below (bX.mono hB), hok, fun k hk => by rcases hk with h | h; have := hS k h; omega; omega⟩
  have y0 := (show Boxed X yb 50 (.func (.yield l) #[] #[]) from (bX.block _ (hS _ hSy)).trans hy).cell
  have HD1 := hide (show Boxed X yb 50 (.func (.yield l) #[] #[]) from (bX.block _ (hS _ hSy)).trans hy)
  have HD2 := hide (show Boxed X db 50 (.func (.func 94) #[] #[.pointer (some ⟨yb, 0, none⟩), .pointer (some ⟨db, 0, none⟩)]) from (bX.block _ (hS _ hSd)).trans hd)
  have HI := hide (hi.below (bX.mono hB))
  have x0 := cells_at e1 0 _ rfl
  have x1 := cells_at e1 1 _ rfl
  have x2 := cells_at e1 2 _ rfl
  have x3 := cells_at e1 3 _ rfl
  have x4 := cells_at e1 4 _ rfl
  have HE1 := hide e1
  have HXS := hide hxs
  have HC := hide hC
  have HKX := hide (KeptP.below (B := D) (K := fun k => k < B) (S := S) bX)
  have HS := hide (And.intro hS (And.intro hSy hSd))
  have hln : v.items.length ≤ 1000000000 := by have := size_len v; omega
  have HSZ := hide (fun (x : Vl) (hx : x ∈ v.items) => (show x.size ≤ 1000000000 from by have := Vl.size_item hx; omega))
  clear hxv hy hd hi e1 hxs hJX hJ0 hC
  refine callsIn_of_wp Tryz.func94 rfl trivial ?_ rfl
  simp only [Tryz.ntmps94, List.size_toArray, List.length_cons, List.length_nil, Nat.reduceAdd, Nat.reduceSub, Array.replicate_succ, Array.replicate_zero, List.push_toArray, List.append_toArray, List.nil_append, List.cons_append]
  gi_wp2
  refine ⟨(fun h => by cases h), hR.mono ?_⟩
  rintro e W4 (⟨rfl, hJ4, hk4⟩ | ⟨rfl, hJx4⟩)
  rotate_left
  · gi_wp2
    go_ret
    exact .inr ⟨rfl, _, pre, v, (v.items.map partsV).flatten ++ post, by rw [HXS.out, partsV_eq]; simp, hJx4⟩
  have f4 := hk4.own W.heap.size _ (.inr rfl) HE1.out
  have x4' := cells_at f4 4 _ rfl
  have HB1 := hide (show Boxed W4 yb 50 (.func (.yield l) #[] #[]) from hk4.own yb _ (.inl HS.out.2.1) HD1.out)
  have HB2 := hide (show Boxed W4 db 50 (.func (.func 94) #[] #[.pointer (some ⟨yb, 0, none⟩), .pointer (some ⟨db, 0, none⟩)]) from hk4.own db _ (.inl HS.out.2.2) HD2.out)
  have HI4 := hide (items_keptP HI.out hk4 (by omega))
  have HJ4 := hide hJ4
  have hz4 := hk4.size
  have HK4 := hide (HKX.out.trans (hk4.sub (fun k h => .inl h)))
  clear f4 hJ4 hk4 hyy hR y0 x0 x1 x2 x3 x4 HKX HD1 HD2 HI HE1
  gi_wp2
  clear x4'
  gi_loopw [6, 14] (fun _ i wr => ∃ (k : Nat) (S1 : Blocks), k ≤ v.items.length ∧ i = .int .i64 k ∧ (∀ k, S k → S1 k) ∧ (∀ k, S1 k → k < wr.heap.size) ∧ J (pre ++ v :: ((v.items.take k).map partsV).flatten) S1 wr ∧ KeptP D (fun k => k < B) S W wr ∧ Boxed wr yb 50 (.func (.yield l) #[] #[]) ∧ Boxed wr db 50 (.func (.func 94) #[] #[.pointer (some ⟨yb, 0, none⟩), .pointer (some ⟨db, 0, none⟩)]) ∧ ItemsAt wr B (n + 1) (.slice a v.items.length c) v.items) (fun _ i _ => v.items.length - (intOf i).toNat)
  case atStart => exact ⟨0, fun k => S k ∨ k = W.heap.size, Nat.zero_le _, rfl, fun k h => .inl h, fun k h => by rcases h with h | h; have := HS.out.1 k h; omega; omega, by simpa using HJ4.out, HK4.out, HB1.out, HB2.out, HI4.out⟩
  case round =>
    obtain ⟨k, S1, hk, rfl, hS1, hS1l, hJk, hKk, hb1, hb2, hik⟩ := hrel
    by_cases hlt : k < v.items.length
    · obtain ⟨b1, o1, s1, rfl, g1, p0, p1, p2, p3, p4, p5, p6⟩ := hik.item k hlt
      have hBr : B ≤ wr.heap.size := by have := hKk.size; omega
      have HX2 := hide (fun (o : Obj) (mm : Nat) => HC.out v.items[k] (pre ++ v :: ((v.items.take k).map partsV).flatten) (((v.items.drop (k + 1)).map partsV).flatten ++ post) (wr.alloc o) S1 s1 mm (by
          rw [HXS.out, partsV_eq v, parts_split v.items k hlt]
          simp only [List.cons_append, List.append_assoc]) (hJ.below hJk (alloc_v (Below.refl _ _) _)) (p5.below ((alloc_v (Below.refl _ _) _).mono hBr)) p6 (HSZ.out _ (List.getElem_mem hlt)) (by rw [World.size_alloc]; omega) (fun k h => by rw [World.size_alloc]; have := hS1l k h; omega) (hS1 _ HS.out.2.1) (hS1 _ HS.out.2.2) ((Below.heap_alloc _ _ _ hb1.lt).trans hb1) ((Below.heap_alloc _ _ _ hb2.lt).trans hb2))
      have d0 := hb2.cell
      have ldb : db < wr.heap.size := hb2.lt
      obtain ⟨xx1, yy1, rfl, _⟩ := p5.len
      have l1 : b1 < wr.heap.size := by omega
      have HR := hide (And.intro hS1 (And.intro hKk (And.intro hb1 (And.intro hb2 (And.intro hik (parts_take v.items k hlt))))))
      clear hJk hKk hb1 hb2 hik p5 p6 hS1 g1
      generalize v.items[k].items = xi at *
      generalize hxk : v.items[k] = xk at *
      gi_wp2_with (refine ⟨trivial, (fun h => by cases h), ?_⟩; gi_at_call 94; refine (HX2.out _ _).mono ?_; clear HX2)
      rintro e w5 (⟨rfl, S5, hS5, hJ5, hK5, hS5l⟩ | ⟨rfl, S5, p, x, q, hq, hJx5⟩)
      · have hr := HR.out
        have kA := KeptP.alloc D (fun k => k < B) S1 wr (.cells #[.int .i64 xk.kind, .int .i64 xk.int, .int .i64 xk.im, .string xk.text, .slice xx1 xi.length yy1] 25)
        have k5 := kA.trans hK5
        have R5 := hide (And.intro (fun k h => hS5 k (hr.1 k h)) (And.intro hS5l (And.intro hJ5 (And.intro (hr.2.1.trans (k5.sub hr.1)) (And.intro (k5.own yb _ (hr.1 _ HS.out.2.1) hr.2.2.1) (And.intro (k5.own db _ (hr.1 _ HS.out.2.2) hr.2.2.2.1) (items_keptP hr.2.2.2.2.1 k5 (by omega))))))))
        clear hr kA k5 hK5 hJ5 hS5l hS5 d0
        gi_wp2
        go_roundw
        case rel =>
          obtain ⟨r1, r2, r3, r4, r5, r6, r7⟩ := R5.out
          refine ⟨k + 1, S5, by omega, by go_num, r1, r2, ?_, r4, r5, r6, r7⟩
          have e := HR.out.2.2.2.2.2
          rw [e]
          have r3' := r3
          rw [List.append_assoc, List.cons_append] at r3'
          exact r3'
        case measure => simp [intOf]; omega
      · clear d0 HR
        gi_wp2
        go_ret
        exact .inr ⟨rfl, S5, p, x, q, hq, hJx5⟩
    · rw [List.take_of_length_le (by omega)] at hJk
      have R := hide (And.intro hS1 (And.intro hJk (And.intro hKk hS1l)))
      clear hJk hKk hb1 hb2 hik hS1 hS1l
      gi_wp2
      go_ret
      refine .inl ⟨rfl, S1, R.out.1, ?_, R.out.2.2.1, R.out.2.2.2⟩
      rw [partsV_eq]
      exact R.out.2.1
theorem down_k {l D B yb db : Nat} {xs : List Vl} {J Jx : List Vl → Blocks → World → Prop} (hJ : OwnJ J) (hY : ∀ pre x S vs W1 m, J pre S W1 → (∃ post, xs = pre ++ x :: post) → encP B x S vs W1 → YieldAt Fence.wide m Tryz.prog l vs W1 fun e W' =>
      (e = .returned (.bool true) ∧ J (pre ++ [x]) S W' ∧ KeptP D (fun k => k < B) S W1 W') ∨ (e = .returned (.bool false) ∧ Jx (pre ++ [x]) S W')) : ∀ n, DownC l D B yb db xs J Jx n
  | 0 => fun _ _ _ _ _ _ _ _ _ h => h.elim
  | n + 1 => down_step hJ hY (down_k hJ hY n)
set_option maxRecDepth 100000 in
set_option maxHeartbeats 4000000 in
/-- within: a value and all that is in it, in their order. -/
theorem within_seq (n N : Nat) (v : Vl) (vb B : Nat) (sl : Value) (w : World) (hvb : w.heap[vb]? = some (.cells (vcells v sl) 25 (0, 0))) (hi : ItemsAt w B N sl v.items) (hok : v.ok) (hsz : v.size ≤ 1000000000) (hB : B ≤ w.heap.size) :
    SeqP n Tryz.prog 93 #[.pointer (some ⟨vb, 0, none⟩)] (encP B) (fun k => k < B) (partsV v) w := fun l J Jx W hWs hWlow hJ hJx hY h0 => by
  have hvlt : vb < w.heap.size := (Array.getElem?_eq_some_iff.1 hvb).1
  have hvW := (hWlow vb hvlt).trans hvb
  have hiW : ItemsAt W B N sl v.items := hi.kept fun b o hb => World.cell?_of_block (hWlow b (by omega))
  obtain ⟨X, hX⟩ : ∃ X, W.alloc (.cells #[.func (.yield l) #[] #[]] 50) = X := ⟨_, rfl⟩
  have zX : X.heap.size = W.heap.size + 1 := by rw [← hX]; simp
  have bX : Below W.heap.size W X := by rw [← hX]; exact alloc_v (Below.refl _ _) _
  have e1 : Boxed X W.heap.size 50 (.func (.yield l) #[] #[]) := by rw [← hX]; exact World.alloc_heap_new W _
  obtain ⟨a, c, rfl, _⟩ := hi.len
  have hmf : ∀ (fn : Fn) (first cap : Array Value) (w : World), (Instr.makeFunc fn first cap).run Tryz.prog w = .ok (.func fn first cap) w := fun _ _ _ _ => rfl
  have hd := fun (Y : World) (hY1 : Boxed Y W.heap.size 50 (.func (.yield l) #[] #[])) (hY2 : Boxed Y X.heap.size 50 (.func (.func 94) #[] #[.pointer (some ⟨W.heap.size, 0, none⟩), .pointer (some ⟨X.heap.size, 0, none⟩)])) (b : Below W.heap.size W Y) (hJY : J [] (fun k => k = W.heap.size ∨ k = X.heap.size) Y) (m : Nat) =>
    down_k (D := w.heap.size) (B := B) (yb := W.heap.size) (db := X.heap.size) (xs := partsV v) (Jx := Jx) hJ (fun pre x S vs W1 m h1 h2 h3 => yield_any (hY pre x S vs W1 h1 h2 h3)) N v [] [] Y (fun k => k = W.heap.size ∨ k = X.heap.size) (.slice a v.items.length c) m (by simp) hJY (hiW.below (b.mono (by omega))) hok hsz (by have := b.size; omega) (fun k hk => by have := hY2.lt; rcases hk with rfl | rfl <;> omega) (.inl rfl) (.inr rfl) hY1 hY2
  have HD := hide hd
  have HJ0 := hide h0
  have hv2 := (bX.block vb (by omega)).trans hvW
  have hJY : J [] (fun k => k = W.heap.size ∨ k = X.heap.size) (X.alloc (.cells #[.func (.func 94) #[] #[.pointer (some ⟨W.heap.size, 0, none⟩), .pointer (some ⟨X.heap.size, 0, none⟩)]] 50)) :=
    hJ.below (hJ.claim _ _ _ W h0 (fun k hk => .inr (by rcases hk with rfl | rfl <;> omega))) (alloc_v bX _)
  have hb2 : Boxed (X.alloc (.cells #[.func (.func 94) #[] #[.pointer (some ⟨W.heap.size, 0, none⟩), .pointer (some ⟨X.heap.size, 0, none⟩)]] 50)) X.heap.size 50 (.func (.func 94) #[] #[.pointer (some ⟨W.heap.size, 0, none⟩), .pointer (some ⟨X.heap.size, 0, none⟩)]) := by
    have := World.alloc_heap_new X (.cells #[.func (.func 94) #[] #[.pointer (some ⟨W.heap.size, 0, none⟩), .pointer (some ⟨X.heap.size, 0, none⟩)]] 50)
    exact this
  have HC := hide (fun m => HD.out _ ((Below.heap_alloc _ _ _ (by omega)).trans e1) hb2 (alloc_v bX _) hJY m)
  have y0 := cells_at hv2 0 _ rfl
  have y1 := cells_at hv2 1 _ rfl
  have y2 := cells_at hv2 2 _ rfl
  have y3 := cells_at hv2 3 _ rfl
  have y4 := cells_at hv2 4 _ rfl
  have lvb : vb < X.heap.size := by omega
  clear hd hY hvW hiW hi hvb HD hJY hb2 hv2 e1 hWs hWlow hvlt hB zX
  refine callsIn_of_wp Tryz.func93 rfl trivial ?_ rfl
  simp only [Tryz.ntmps93, List.size_toArray, List.length_cons, List.length_nil, Nat.reduceAdd, Nat.reduceSub, Array.replicate_succ, Array.replicate_zero, List.push_toArray, List.append_toArray, List.nil_append, List.cons_append]
  gi_wp2_with (refine ⟨trivial, (fun h => by cases h), ?_⟩; gi_at_call 94; refine (HC.out _).mono ?_; clear HC)
  rintro e w5 (⟨rfl, S5, hS5, hJ5, hK5, hS5l⟩ | ⟨rfl, S5, p, x, q, hq, hJx5⟩)
  · clear hS5 hK5 hS5l
    gi_wp2
    go_end0
    exact ⟨⟨_, rfl⟩, .inl ⟨S5, hJ5⟩⟩
  · gi_wp2
    go_end0
    exact ⟨⟨_, rfl⟩, .inr ⟨S5, p, x, q, hq, hJx5⟩⟩
end Go.Proofs.YtmgmndhibcgpdaaGreatDoor
