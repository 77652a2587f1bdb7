/- ValueParts: Parts goes through what the document's Parts lists, may be left early, and goes through it anew. -/
import Derived.Test.YtagolpdhjkcoeaaGreatDoorGPartS
import Derived.Test.YtagolpdhjkcoeaaGreatDoorZVRefPartsC
import Derived.Test.YtagolpdhjkcoeaaGreatDoorZVAlive
import Derived.LoopNIn
import Derived.Sort.CutIn
import Derived.Test.YtagolpdhjkcoeaaGreatDoorZTLaid
import Derived.Test.YtagolpdhjkcoeaaGreatDoorGOpens
import Derived.ChangeMaps5
namespace Go.Proofs.YtagolpdhjkcoeaaGreatDoor
open Go.RowKit
attribute [local go_sem] Oper.semAt_some

theorem OwnL.w {β : Type} {B : Nat} {I : β → Blocks → World → Prop} (h : OwnL B I) : OwnW B I :=
  ⟨fun s S W W' row hi hg hr => h.grown s S W W' row hi hg (fun r e => by
    rcases hr r e with h' | h'
    · exact .inl ⟨by omega, h'.2⟩
    · exact .inr h'), h.claim⟩
theorem ItemsAt.keptS {w w' : World} {B : Nat} (hk : ∀ b o v, b < B → w.cell? ⟨b, o, none⟩ = some v → w'.cell? ⟨b, o, none⟩ = some v) : ∀ {n : Nat} {sl : Value} {its : List Vl}, ItemsAt w B n sl its → ItemsAt w' B n sl its
  | 0, _, _, h => h.elim
  | n + 1, _, its, h => by
    obtain ⟨a, c, e, hl, hc⟩ := h
    refine ⟨a, c, e, hl, fun j hj => ?_⟩
    obtain ⟨b, off, s', e, hb, h0, h1, h2, h3, h4, h5, h6⟩ := hc j hj
    exact ⟨b, off, s', e, hb, hk _ _ _ hb h0, hk _ _ _ hb h1, hk _ _ _ hb h2, hk _ _ _ hb h3, hk _ _ _ hb h4, ItemsAt.keptS hk h5, h6⟩
theorem cell_other {W Y : World} {row : Option Nat} (hg : W.grownBy Y row) (hr : ∀ r, row = some r → ∃ o : Obj, W.heap[r]? = some o ∧ o.isCells = false) (b o : Nat) (v : Value) (h : W.cell? ⟨b, o, none⟩ = some v) : Y.cell? ⟨b, o, none⟩ = some v := by
  have hlt : b < W.heap.size := by
    rcases Nat.lt_or_ge b W.heap.size with hb | hb
    · exact hb
    · rw [World.cell?, Array.getElem?_eq_none hb] at h
      cases h
  refine (World.cell?_of_block (hg.block b hlt (fun e => ?_))).trans h
  obtain ⟨o', h1, h2⟩ := hr b e.symm
  rw [World.cell?, h1] at h
  cases o' <;> simp [Obj.isCells] at h h2
/-- What the caller of Parts gets: an iterator over these. -/
def Iter4 (W : World) (f : Value) (K : Blocks) (xs : List Vl) : Prop := ∃ gf lb, f = .func (.func gf) #[] lb ∧ (∀ args w, (callFunc gf args).run Tryz.prog w = .ok (.enter gf args) w) ∧ (∀ w, (binOp BinOp.eql 28 (.func (.func gf) #[] lb) .nilFunc).run Tryz.prog w = .ok (.bool false) w) ∧
  (∀ k, K k → k < W.heap.size) ∧ ∀ W', (∀ k, K k → W'.heap[k]? = W.heap[k]?) → W.heap.size ≤ W'.heap.size → ∀ n, SeqQ n Tryz.prog gf lb encQ K xs W'
theorem partsNil2 (x : Array Value) (w : World) : (binOp BinOp.eql 28 (.func (.func 32) #[] x) .nilFunc).run Tryz.prog w = .ok (.bool false) w := by
  simp only [binOp, Sem.run_bind, Op.equal, Op.maxDepth]
  rw [Op.equalIn, Sem.run_bind, run_underlying Tryz.underlying28]
  rfl
theorem partsNil1 (w : World) : (binOp BinOp.eql 28 (.func (.func 30) #[] #[]) .nilFunc).run Tryz.prog w = .ok (.bool false) w := by
  simp only [binOp, Sem.run_bind, Op.equal, Op.maxDepth]
  rw [Op.equalIn, Sem.run_bind, run_underlying Tryz.underlying28]
  rfl
theorem parts_none (n : Nat) (w : World) : SeqQ n Tryz.prog 30 #[] encQ (fun _ => False) ([] : List Vl) w := fun l J Jx W hWs hlW hWlow hJ hJx hY h0 => by
  refine callsIn_of_wp Tryz.func30 rfl trivial ?_ rfl
  simp only [Tryz.ntmps30, List.size_toArray, List.length_cons, List.length_nil, Nat.reduceAdd, Nat.reduceSub, Array.replicate_succ, Array.replicate_zero, List.push_toArray, List.append_toArray, List.nil_append, List.cons_append]
  gi_wp2
  go_end0
  exact ⟨⟨_, rfl⟩, .inl ⟨_, h0⟩⟩
set_option maxRecDepth 100000 in
theorem partsMake_k (v : Vl) (w : World) (N : Nat) (sl : Value) (hT : Tabs w) (hok : v.ok) (hz : v.size ≤ 1000000000) (hi : ItemsAt w w.heap.size N sl v.items) :
    Calls Tryz.prog 7 #[.agg (vcells v sl)] w fun e w' => (∃ f, e = .returned f ∧ ∃ K, Iter4 w' f K (if rightV v then partsV v else [])) ∧ Below w.heap.size w w' := by
  obtain ⟨W, hW⟩ : ∃ W, w.alloc (.cells (vcells v sl) 25) = W := ⟨_, rfl⟩
  have bW : Below w.heap.size w W := by rw [← hW]; exact alloc_v (Below.refl _ _) _
  have e1 : W.heap[w.heap.size]? = some (.cells (vcells v sl) 25 (0, 0)) := by rw [← hW]; exact World.alloc_heap_new w _
  have zW : w.heap.size < W.heap.size := (Array.getElem?_eq_some_iff.1 e1).1
  have x0 := cells_at e1 0 _ rfl
  have x1 := cells_at e1 1 _ rfl
  have x2 := cells_at e1 2 _ rfl
  have x3 := cells_at e1 3 _ rfl
  have x4 := cells_at e1 4 _ rfl
  have HR := hide (right_k v W N sl (hT.below bW) hok.1 ((hi.below bW).up bW.size))
  have HC := hide (fun (U : World) (b : Below W.heap.size W U) => copied_k N v U w.heap.size sl hz (by have := b.size; omega) (hi.below (trans_v bW b)))
  have hmf : ∀ (fn : Fn) (first cap : Array Value) (w : World), (Instr.makeFunc fn first cap).run Tryz.prog w = .ok (.func fn first cap) w := fun _ _ _ _ => rfl
  obtain ⟨a, c, rfl, _⟩ := hi.len
  clear hi e1
  generalize rightV v = x at *
  cases x
  · go_enter Tryz.func7, Tryz.ntmps7
    go_wp2_with (go_at_call 29; refine HR.out.mono ?_; clear HR; rintro e w2 ⟨rfl, b2⟩; have hc := (bcellV b2).1)
    go_ret
    exact ⟨⟨_, rfl, fun _ => False, _, _, rfl, enters_of Tryz.func30 (by kernel_rfl) rfl, partsNil1, fun _ h => h.elim, fun W' _ _ n => parts_none n W'⟩, trans_v bW b2⟩
  · go_enter Tryz.func7, Tryz.ntmps7
    go_wp2_with (first
      | (go_at_call 29; refine HR.out.mono ?_; clear HR; rintro e w2 ⟨rfl, b2⟩; have hc := (bcellV b2).1)
      | (go_at_call 31; refine (HC.out _ b2).mono ?_; clear HC; rintro e w3 ⟨s3, rfl, i3, b3⟩; obtain ⟨sa3, sc3, rfl, _⟩ := i3.len; have I3 := hide (i3.at (B := w3.heap.size) (fun b h => h.2)); have B3 := hide b3; clear i3 b3))
    go_ret
    have bA : Below w3.heap.size w3 (w3.alloc (.cells (vcells v (.slice sa3 v.items.length sc3)) 25)) := alloc_v (Below.refl _ _) _
    have i4 := (I3.out.below bA).up bA.size
    refine ⟨⟨_, rfl, fun k => k < w3.heap.size + 1, _, _, rfl, enters_of Tryz.func32 (by kernel_rfl) rfl, partsNil2 _, fun k h => by rw [World.size_alloc]; exact h, fun W' hk hsz n => ?_⟩, trans_v (trans_v (trans_v bW b2) B3.out) bA⟩
    rw [World.size_alloc] at hsz i4
    exact parts_seq n N v w3.heap.size (w3.heap.size + 1) _ W' ((hk _ (Nat.lt_succ_self _)).trans (World.alloc_heap_new w3 _)) (Nat.lt_succ_self _) (i4.kept (fun b o hb => World.cell?_of_block (hk b hb))) hok hz hsz
/-- A region that draws its order, whose orders all end alike. -/
theorem region_once {F : Fence} {n : Nat} {P : Program} {c : Code} {Q : Exit → Act → World → Prop} {a : Act} {w : World} (A : Act) (R : World → Prop) (h : c.wpIn F n P (NoPanic (fun e a W => e = Exit.normal ∧ a = A ∧ R W)) a w) (k : ∀ W, R W → Q .normal A W) : c.wpIn F n P Q a w :=
  wpIn_mono h (fun e a' W hq => by
    obtain ⟨rfl, rfl, hR⟩ := NoPanic.imp _ _ _ hq
    exact k W hR)
theorem inBlock_brk {id : Nat} {Q : Exit → Act → World → Prop} {a : Act} {W : World} (h : Exit.inBlock id Q .normal a W) : Exit.inBlock id Q (.exit id) a W := by
  show (if id = id then Q .normal a W else Q (.exit id) a W)
  rw [if_pos rfl]
  exact h
/-- A range over a function that may be left by a break: both ends go on alike. -/
theorem seqq_brk {α : Type} {n : Nat} {P : Program} {g : Operand} {ps : Array Tmp} {assign body : Code} {id : Nat} {Q : Exit → Act → World → Prop} {a : Act} {w : World}
    {gf : Nat} {lb : Array Value} (hg : a.eval g = .func (.func gf) #[] lb) (eg : ∀ args w, (callFunc gf args).run P w = .ok (.enter gf args) w)
    {Enc : α → Blocks → Array Value → World → Prop} {K : Blocks} (hsb : ∀ k, K k → k < w.heap.size) {xs : List α} (hseq : SeqQ (n - 1) P gf lb Enc K xs w) (hps : ∀ x S vs W, Enc x S vs W → vs.size = ps.size)
    (I Ib : List α → Blocks → World → Prop) (hI : OwnW w.heap.size I) (hIb : OwnW w.heap.size Ib) (h0 : I [] (fun _ => False) w)
    (hround : ∀ (l : Nat) (pre : List α) (x : α) (S : Blocks) (vs : Array Value) (W : World), I pre S W → (∀ k, S k → w.heap.size + 2 ≤ k) → (∃ post, xs = pre ++ x :: post) → Enc x S vs W → w.heap.size + 2 ≤ W.heap.size →
      assign.wpIn (Fence.wide.inRound l) (n - 1 - 1) P (Exit.then (fun a₁ W₁ => KeptP w.heap.size K S W W₁ ∧ ∃ J : World → Prop, (∀ X Y row, J X → X.grownBy Y row → (∀ r, row = some r → r = w.heap.size + 1 ∧ ∃ o : Obj, X.heap[r]? = some o ∧ o.isCells = false) → J Y) ∧ J W₁ ∧
          ∀ W₂, J W₂ → w.heap.size + 2 ≤ W₂.heap.size → body.wpIn (Fence.wide.inRound l) (n - 1 - 1) P (roundPostP w.heap.size K S I (fun c pre S W => c = Code.exit id ∧ Ib pre S W) (pre ++ [x]) W₂) a₁ W₂) (fun _ _ _ => False))
        { tmps := (ps.zip vs).foldl (fun t (p, v) => t.setIfInBounds p v) a.tmps, defers := [] } W)
    (hend : ∀ (S : Blocks) (pre : List α) (W : World), (pre = xs ∧ I pre S W) ∨ ((∃ post, xs = pre ++ post) ∧ Ib pre S W) → W.heap[w.heap.size]? = some (.deferred (some [])) → Exit.inBlock id Q .normal { a with defers := { target := .collected w.heap.size, args := #[] } :: a.defers } W) :
    (Code.rangeFunc g ps assign body).wpIn Fence.wide n P (Exit.inBlock id Q) a w :=
  seqq_law hg eg hsb hseq hps I (fun c pre S W => c = Code.exit id ∧ Ib pre S W) hI (fun c => ⟨fun s S W W' row h hg hr => ⟨h.1, hIb.grown s S W W' row h.2 hg hr⟩, fun s S S' W h hc => ⟨h.1, hIb.claim s S S' W h.2 hc⟩⟩) h0 hround
    (fun S W h hk => hend S xs W (.inl ⟨rfl, h⟩) hk)
    (fun c S pre x W hp h hk => by
      obtain ⟨rfl, h⟩ := h
      obtain ⟨post, hp⟩ := hp
      exact wpIn_exit (inBlock_brk (hend S (pre ++ [x]) W (.inr ⟨⟨post, by rw [hp]; simp⟩, h⟩) hk)))
theorem results_bool_box {P : Program} {fn : Func} {p : Tmp} {ty : TypeId} (h : fn.results = #[.cell p ty]) (tmps : Array Value) (w : World) (a : Addr) (v : Value)
    (hp : tmps.getD p undef = .pointer (some a)) (hu : P.underlying ty = some .bool) (hc : w.cell? a = some v) : (results fn tmps).run P w = .ok v w := by
  have hp' : tmps[p]?.getD undef = .pointer (some a) := by simpa using hp
  have hl : (loadVar ty a).run P w = .ok v w := by simp [go_sem, isAgg, run_underlying hu, hc]
  simp [results, h, hp', asAddr, hl]
/-- What stays while the statement goes on: its boxes, what is wanted, what the iterator reads. -/
structure Sit (w : World) (s0 wb e0 : Nat) (i : Int) (T : List Vl) (M : Nat) (wa : Option Addr) (wc : Nat) (K : Blocks) (w2 X : World) : Prop where
  lt0 : s0 + 2 < wb
  lt1 : wb < e0
  stp : Boxed X (s0 + 1) 3 (.int .i64 i)
  res : Boxed X (s0 + 2) 4 (.bool false)
  wnt : Boxed X wb 23 (.slice wa T.length wc)
  its : ItemsAt X wb M (.slice wa T.length wc) T
  kk : ∀ k, K k → k < e0 ∧ X.heap[k]? = w2.heap[k]?
  sz : e0 ≤ X.heap.size
  bel : Below s0 w X
theorem Sit.later {w : World} {s0 wb e0 : Nat} {i : Int} {T : List Vl} {M : Nat} {wa : Option Addr} {wc : Nat} {K : Blocks} {w2 X Y : World} (h : Sit w s0 wb e0 i T M wa wc K w2 X) (hb : Below e0 X Y) : Sit w s0 wb e0 i T M wa wc K w2 Y := by
  have h1 := h.lt0
  have h2 := h.lt1
  have h3 := h.sz
  have h4 := hb.size
  exact ⟨h1, h2, (hb.block _ (by omega)).trans h.stp, (hb.block _ (by omega)).trans h.res, (hb.block _ (by omega)).trans h.wnt, h.its.below (hb.mono (by omega)), fun k hk => ⟨(h.kk k hk).1, (hb.block k (h.kk k hk).1).trans (h.kk k hk).2⟩, by omega, h.bel.trans (hb.mono (by omega))⟩
theorem Cn.later {α : Type} {nb : Nat} {X : World} {f : List α → Int} {pre : List α} {S : Blocks} {W W' : World} (h : Cn nb X f pre S W) (hX : nb < X.heap.size) (hb : Below W.heap.size W W') : Cn nb X f pre S W' :=
  (Cn.own f hX).grown pre S W W' none h (grown_below hb) (fun _ e => by cases e)
set_option maxRecDepth 100000 in
set_option maxHeartbeats 4000000 in
theorem valueParts_walk (v : Vl) (i : Int) (w : World) (N : Nat) (sl : Value) (hT : Tabs w) (hok : v.ok) (hz : v.size ≤ 1000000000) (hi : ItemsAt w w.heap.size N sl v.items) :
    Calls Tryz.prog 3 #[.agg (vcells v sl), .int .i64 i] w fun e w' => e = .returned (.bool true) ∧ Below w.heap.size w w' := by
  obtain ⟨W, hW⟩ : ∃ W, ((w.alloc (.cells (vcells v sl) 25)).alloc (.cells #[.int .i64 i] 3)).alloc (.cells #[.bool false] 4) = W := ⟨_, rfl⟩
  have bW : Below w.heap.size w W := by rw [← hW]; exact alloc_v (alloc_v (alloc_v (Below.refl _ _) _) _) _
  have zW : W.heap.size = w.heap.size + 3 := by rw [← hW]; simp
  have e1 : W.heap[w.heap.size]? = some (.cells (vcells v sl) 25 (0, 0)) := by rw [← hW]; exact (Below.heap_alloc _ _ _ (by simp; omega)).trans ((Below.heap_alloc _ _ _ (by simp)).trans (World.alloc_heap_new w _))
  have e2 : Boxed W (w.heap.size + 1) 3 (.int .i64 i) := by
    rw [← hW]
    have := Boxed.new (w.alloc (.cells (vcells v sl) 25)) 3 (.int .i64 i)
    rw [World.size_alloc] at this
    exact this.alloc _
  have e3 : Boxed W (w.heap.size + 2) 4 (.bool false) := by
    rw [← hW]
    have := Boxed.new ((w.alloc (.cells (vcells v sl) 25)).alloc (.cells #[.int .i64 i] 3)) 4 (.bool false)
    rw [World.size_alloc, World.size_alloc] at this
    exact this
  have HP := hide (refPartsC_k v W N sl hok hz ((hi.below bW).up bW.size))
  have HQ := hide (fun (U : World) (b : Below W.heap.size W U) => partsMake_k v U N sl (hT.below (trans_v bW b)) hok hz ((hi.below (trans_v bW b)).up (trans_v bW b).size))
  have HAL := hide (fun (U : World) (b : Below w.heap.size w U) => alive4_k U (hT.below b))
  have x0 := cells_at e1 0 _ rfl
  have x1 := cells_at e1 1 _ rfl
  have x2 := cells_at e1 2 _ rfl
  have x3 := cells_at e1 3 _ rfl
  have x4 := cells_at e1 4 _ rfl
  have HE1 := hide e1
  obtain ⟨T, hTe⟩ : ∃ T, (if rightV v then partsV v else []) = T := ⟨_, rfl⟩
  have hTl : T.length ≤ 1000000000 := by
    rw [← hTe]
    split
    · rw [partsV_len v.size v (Nat.le_refl _)]; exact hz
    · simp
  rw [hTe] at HP HQ
  obtain ⟨a, c, rfl, _⟩ := hi.len
  have HW := hide zW
  clear hi e1 hT hTe zW
  refine (callsIn_wide (n := 9)).1 ?_
  refine callsIn_of_wp_marks Tryz.func3 rfl trivial ?_ rfl
  simp only [Tryz.ntmps3, List.size_toArray, List.length_cons, List.length_nil, Nat.reduceAdd, Nat.reduceSub, Array.replicate_succ, Array.replicate_zero, List.push_toArray, List.append_toArray, List.nil_append, List.cons_append]
  gi_wp2_with (first
    | (refine ⟨trivial, ?_⟩; gi_at_call 6; refine (callsIn_wide.2 HP.out).mono ?_; clear HP; rintro e w1 ⟨⟨s1, rfl, i1⟩, b1⟩; obtain ⟨wa, wcp, rfl, _⟩ := i1.len; have f1 := (b1.block w.heap.size (Array.getElem?_eq_some_iff.1 HE1.out).1).trans HE1.out; have y0 := cells_at f1 0 _ rfl; have y1 := cells_at f1 1 _ rfl; have y2 := cells_at f1 2 _ rfl; have y3 := cells_at f1 3 _ rfl; have y4 := cells_at f1 4 _ rfl; have l1 : w.heap.size < w1.heap.size := (Array.getElem?_eq_some_iff.1 f1).1; have B1 := hide b1; have I1 := hide i1; clear b1 i1 f1)
    | (refine ⟨trivial, ?_⟩; gi_at_call 7; refine (callsIn_wide.2 (HQ.out _ (alloc_v B1.out _))).mono ?_; clear HQ; rintro e w2 ⟨⟨f2, rfl, K, gf, lb, rfl, hen, hnil, hK, hseq⟩, b2⟩))
  clear x0 x1 x2 x3 x4 y0 y1 y2 y3 y4 hW
  obtain ⟨X, hX⟩ : ∃ X, w2.alloc (.cells #[.int .i64 0] 3) = X := ⟨_, rfl⟩
  rw [hX]
  have z1 := B1.out.size
  have z2 := b2.size
  rw [World.size_alloc] at z2
  have hS2 : Sit w w.heap.size w1.heap.size w2.heap.size i T (N + 1) wa wcp K w2 w2 := by
    have hw := HW.out
    have bA : Below w1.heap.size w1 (w1.alloc (.cells #[.slice wa T.length wcp] 23)) := alloc_v (Below.refl _ _) _
    have b12 := trans_v bA b2
    refine ⟨by omega, by omega, (b12.block _ (by omega)).trans ((B1.out.block _ (by omega)).trans e2), (b12.block _ (by omega)).trans ((B1.out.block _ (by omega)).trans e3), (b2.block _ (by simp)).trans (World.alloc_heap_new w1 _), I1.out.below b12, fun k hk => ⟨hK k hk, rfl⟩, Nat.le_refl _, trans_v (trans_v bW B1.out) b12⟩
  have hSX : Sit w w.heap.size w1.heap.size w2.heap.size i T (N + 1) wa wcp K w2 X := hS2.later (by rw [← hX]; exact alloc_v (Below.refl _ _) _)
  have tX : Boxed X w2.heap.size 3 (.int .i64 0) := by rw [← hX]; exact World.alloc_heap_new w2 _
  have zX : X.heap.size = w2.heap.size + 1 := by rw [← hX]; simp
  have HZ := hide (And.intro z1 (And.intro z2 zX))
  clear hX hS2 b2 e2 e3 bW z1 z2 B1 I1 HE1 HW hnil
  generalize hh0 : w.heap.size = s0 at *
  generalize w1.heap.size = wb at *
  generalize w2.heap.size = e0 at *
  have t0 := tX.cell
  have lX : e0 < X.heap.size := by omega
  refine wpIn_loop_rounds 3 ?_
  rw [roundsIn_succ]
  clear zX HZ
  gi_wp2
  obtain ⟨Y, hY⟩ : ∃ Y, X.alloc (.cells #[.int .i64 0] 3) = Y := ⟨_, rfl⟩
  have hbY : Below X.heap.size X Y := by rw [← hY]; exact alloc_v (Below.refl _ _) _
  have hSY := hSX.later (hbY.mono hSX.sz)
  have nY : Boxed Y X.heap.size 3 (.int .i64 0) := by rw [← hY]; exact World.alloc_heap_new X _
  have tY : Boxed Y e0 3 (.int .i64 0) := (hbY.block _ lX).trans tX
  rw [hY]
  obtain ⟨nb, hnb⟩ : ∃ nb, X.heap.size = nb := ⟨_, rfl⟩
  rw [hnb] at nY hbY lX ⊢
  have lY : nb < Y.heap.size := nY.lt
  clear hY hbY t0 hnb tX
  refine seqq_brk (gf := gf) (lb := lb) rfl hen (K := K) (fun k hk => by have := (hSY.kk k hk).1; omega)
    (hseq Y (fun k hk => (hSY.kk k hk).2) hSY.sz _) (fun _ _ _ _ h => by obtain ⟨_, _, rfl, _⟩ := h; rfl)
    (Cn nb Y (fun l : List Vl => (l.length : Int))) (fun pre S W => Cn nb Y (fun l : List Vl => (l.length : Int)) pre S W ∧ (pre.length : Int) = i) (Cn.own _ lY).w
    ⟨fun s S W W' row h hg hr => ⟨(Cn.own _ lY).w.grown s S W W' row h.1 hg hr, h.2⟩, fun s S S' W h hc => ⟨(Cn.own _ lY).w.claim s S S' W h.1 hc, h.2⟩⟩ ⟨nY, Below.refl _ _, fun _ h => h.elim⟩ ?round1 ?end1
  case round1 =>
    rintro l9 pre x S vs W9 hC hS ⟨post, hpost⟩ ⟨n9, sl9, rfl, hi9, hok9⟩ hsz9
    obtain ⟨a9, c9, rfl, _⟩ := hi9.len
    have hpl : pre.length < T.length := by rw [hpost]; simp
    have hTx : T[pre.length] = x := by subst hpost; simp
    gi_wp2
    refine ⟨KeptP.alloc _ _ _ _ _, fun U => Cn nb Y (fun l : List Vl => (l.length : Int)) pre S U ∧ ItemsAt U U.heap.size n9 (.slice a9 x.items.length c9) x.items ∧ U.heap[W9.heap.size]? = some (.cells (vcells x (.slice a9 x.items.length c9)) 25 (0, 0)), ?_, ⟨(Cn.own _ lY).alloc _ hC, (hi9.below (alloc_v (Below.refl _ _) _)).up (by simp), World.alloc_heap_new W9 _⟩, ?_⟩
    · rintro X' Y' row ⟨h1, h2, h3⟩ hg hr
      exact ⟨(Cn.own _ lY).w.grown _ _ _ _ _ h1 hg (fun r e => .inl (hr r e)), (h2.keptS (fun b o v _ h => cell_other hg (fun r e => (hr r e).2) b o v h)).up hg.size, (hg.block _ (Array.getElem?_eq_some_iff.1 h3).1 (fun e => by have := (hr _ e.symm).1; omega)).trans h3⟩
    clear hC hi9
    rintro W₂ ⟨hC, hI2, hp2⟩ hsz2
    have hS4 := hSY.later (hC.2.1.mono (by omega))
    have q0 := cells_at hp2 0 _ rfl
    have q1 := cells_at hp2 1 _ rfl
    have q2 := cells_at hp2 2 _ rfl
    have q3 := cells_at hp2 3 _ rfl
    have q4 := cells_at hp2 4 _ rfl
    have cn := hC.1.cell
    have cw := hS4.wnt.cell
    obtain ⟨b1, o1, s1, rfl, g1, p0, p1, p2, p3, p4, p5, p6⟩ := hS4.its.item pre.length hpl
    rw [hTx] at p0 p1 p2 p3 p5 p6
    have hge : ¬ ((T.length : Int) ≤ (pre.length : Int)) := by omega
    have hd : decide (T.length ≤ pre.length) = false := by simp; omega
    have r0 : (0 : Int) ≤ (pre.length : Int) := by omega
    have r1 : (pre.length : Int) < (T.length : Int) := by omega
    have hlw : wb < W₂.heap.size := hS4.wnt.lt
    have HA := hide (fun (U : World) (b : Below W₂.heap.size W₂ U) => alike_k n9 x x U U.heap.size N _ _ (Nat.le_refl _) ((hI2.below b).up b.size) ((p5.below (b.mono (by omega))).up (by have := b.size; omega)))
    simp only [ordV_self, decide_true] at HA
    have HC := hide hC
    have tW : Boxed W₂ e0 3 (.int .i64 0) := (hC.2.1.block e0 (by omega)).trans tY
    have HN := hide (fun (w6 : World) (b6 : Below W₂.heap.size W₂ w6) => (show Boxed w6 nb 3 (.int .i64 (pre.length : Int)) ∧ Boxed w6 e0 3 (.int .i64 0) ∧ Boxed w6 (s0 + 1) 3 (.int .i64 i) ∧ KeptP Y.heap.size K S W₂ (w6.setCell ⟨nb, 0, none⟩ (.int .i64 ((pre.length : Int) + 1))) ∧ Cn nb Y (fun l : List Vl => (l.length : Int)) (pre ++ [x]) S (w6.setCell ⟨nb, 0, none⟩ (.int .i64 ((pre.length : Int) + 1))) from by
      have h6 := Cn.later hC lY b6
      have hp := h6.put lY (pre ++ [x])
      have hk := (KeptP.below (B := Y.heap.size) (K := K) (S := S) b6).trans (h6.kept lY (fun k hk => by have := (hS4.kk k hk).1; omega) (.int .i64 ((pre.length : Int) + 1)))
      have hsn : (((pre ++ [x]).length : Nat) : Int) = (pre.length : Int) + 1 := by simp
      simp only [hsn] at hp
      exact ⟨h6.1, (b6.block e0 (by have := tW.lt; omega)).trans tW, (b6.block _ (by have := hS4.stp.lt; omega)).trans hS4.stp, hk, hp⟩))
    obtain ⟨xx1, yy1, rfl, _⟩ := p5.len
    clear hC hI2 hp2 p5 p6 hTx hpost hS4 tW
    gi_wp2
    apply region_once (R := fun W => Below W₂.heap.size W₂ W)
    case h =>
      gi_region_with (first
        | ((first | refine ⟨trivial, (fun h => by cases h), ?_⟩ | refine ⟨trivial, ?_⟩); gi_at_call 8; refine (callsIn_wide.2 (HA.out _ (by first | exact Below.refl _ _ | exact (Below.refl _ _).drew | exact (Below.refl _ _).drew.drew | exact (Below.refl _ _).drew.drew.drew | exact (Below.refl _ _).drew.drew.drew.drew))).mono ?_; rintro e w6 ⟨rfl, b6⟩; have b7 : Below W₂.heap.size W₂ w6 := (by first | exact b6 | exact trans_v (Below.refl _ _).drew b6 | exact trans_v (Below.refl _ _).drew.drew b6 | exact trans_v (Below.refl _ _).drew.drew.drew b6 | exact trans_v (Below.refl _ _).drew.drew.drew.drew b6)))
      all_goals exact NoPanic.normal ⟨rfl, rfl, b7⟩
    case k =>
      intro w6 b6
      obtain ⟨u1, u2, u3, u4, u5⟩ := HN.out w6 b6
      have cn6 := u1.cell
      have cf6 := u1.frozen
      have ct6 := u2.cell
      have ci6 := u3.cell
      have lt3 : nb ≠ e0 := by omega
      have lt4 : nb ≠ s0 + 1 := by have := hSY.lt0; have := hSY.lt1; omega
      have cn7 := (u1.set (.int .i64 ((pre.length : Int) + 1))).cell
      have ct7 := (u2.other (B' := nb) (by omega) (.int .i64 ((pre.length : Int) + 1))).cell
      have ci7 := (u3.other (B' := nb) (by omega) (.int .i64 ((pre.length : Int) + 1))).cell
      have hlen : ((pre ++ [x]).length : Int) = (pre.length : Int) + 1 := by simp
      have R := hide (And.intro u4 u5)
      clear cn cw p0 p1 p2 p3 p4 q0 q1 q2 q3 q4 u1 u2 u3 u4 u5 HN HA
      by_cases hi : (pre.length : Int) + 1 = i
      · subst hi
        gi_wp2
        exact ⟨R.out.1, rfl, R.out.2, hlen⟩
      · gi_wp2
        exact R.out
  case end1 =>
    intro S pre W9 hor hK
    obtain ⟨q, hq⟩ : ∃ q, pre.length = q := ⟨_, rfl⟩
    have hC : Cn nb Y (fun l : List Vl => (l.length : Int)) pre S W9 := by rcases hor with h | h; exact h.2; exact h.2.1
    have hqi : q = T.length ∨ (q : Int) = i := by
      rcases hor with h | h
      · left; rw [← hq, h.1]
      · right; rw [← hq]; exact h.2.2
    have hql : q ≤ 1000000000 := by
      rcases hor with h | h
      · rw [← hq, h.1]; exact hTl
      · obtain ⟨post, hp⟩ := h.1
        rw [hp] at hTl
        simp at hTl
        omega
    have nW : Boxed W9 nb 3 (.int .i64 (q : Int)) := by rw [← hq]; exact hC.1
    have bYW := hC.2.1
    have hSW := hSY.later (bYW.mono (by omega))
    have tW : Boxed W9 e0 3 (.int .i64 0) := (bYW.block e0 (by omega)).trans tY
    obtain ⟨d1, hd1⟩ : ∃ d1, Y.heap.size = d1 := ⟨_, rfl⟩
    rw [hd1] at hK ⊢
    have cn := nW.cell
    have cw := hSW.wnt.cell
    have ct := tW.cell
    have ci := hSW.stp.cell
    have ld : d1 < W9.heap.size := (Array.getElem?_eq_some_iff.1 hK).1
    have hdn : nb < d1 := by omega
    clear hor hC hq hSY tY nY hSX
    gi_upto_region 15 with (fail)
    gi_cut [56] from 44 (fun s wx => s = .bool false ∧ wx = W9)
    case first =>
      by_cases hqT : (q : Int) = (T.length : Int)
      · gi_wp2
        gi_meet
        case rel => exact ⟨rfl, rfl⟩
      · have hqi' : (q : Int) = i := by rcases hqi with h | h; omega; exact h
        gi_wp2
        gi_meet
        case rel => exact ⟨rfl, rfl⟩
    case rest =>
      obtain ⟨rfl, rfl⟩ := hcut
      clear cn cw ci hqi hql nW
      gi_wp2
      obtain ⟨X2, hX2⟩ : ∃ X2, wc.alloc (.cells #[.int .i64 1] 3) = X2 := ⟨_, rfl⟩
      have hbX2 : Below wc.heap.size wc X2 := by rw [← hX2]; exact alloc_v (Below.refl _ _) _
      have hSX2 := hSW.later (hbX2.mono hSW.sz)
      have tX2 : Boxed X2 wc.heap.size 3 (.int .i64 1) := by rw [← hX2]; exact World.alloc_heap_new wc _
      have hK2 : X2.heap[d1]? = some (.deferred (some [])) := (hbX2.block _ ld).trans hK
      have he1 := hSW.sz
      obtain ⟨e1, hee⟩ : ∃ e1, wc.heap.size = e1 := ⟨_, rfl⟩
      rw [hX2]
      rw [hee] at tX2 he1 ld ⊢
      have lX2 : e1 < X2.heap.size := tX2.lt
      have t2 := tX2.cell
      clear hX2 hbX2 hSW ct tW hK hee bYW lY
      rw [roundsIn_succ]
      gi_wp2
      obtain ⟨Y2, hY2⟩ : ∃ Y2, X2.alloc (.cells #[.int .i64 0] 3) = Y2 := ⟨_, rfl⟩
      have hbY2 : Below X2.heap.size X2 Y2 := by rw [← hY2]; exact alloc_v (Below.refl _ _) _
      have hSY2 := hSX2.later (hbY2.mono hSX2.sz)
      have nY2 : Boxed Y2 X2.heap.size 3 (.int .i64 0) := by rw [← hY2]; exact World.alloc_heap_new X2 _
      have tY2 : Boxed Y2 e1 3 (.int .i64 1) := (hbY2.block _ lX2).trans tX2
      have hK3 : Y2.heap[d1]? = some (.deferred (some [])) := (hbY2.block _ (by omega)).trans hK2
      rw [hY2]
      obtain ⟨nb2, hnb2⟩ : ∃ nb2, X2.heap.size = nb2 := ⟨_, rfl⟩
      rw [hnb2] at nY2 hbY2 lX2 ⊢
      have lY2 : nb2 < Y2.heap.size := nY2.lt
      clear hY2 hbY2 t2 hnb2 tX2 hSX2 hK2
      refine seqq_brk (gf := gf) (lb := lb) rfl hen (K := K) (fun k hk => by have := (hSY2.kk k hk).1; omega)
        (hseq Y2 (fun k hk => (hSY2.kk k hk).2) hSY2.sz _) (fun _ _ _ _ h => by obtain ⟨_, _, rfl, _⟩ := h; rfl)
        (Cn nb2 Y2 (fun l : List Vl => (l.length : Int))) (fun _ _ _ => False) (Cn.own _ lY2).w (ownL_false _).w ⟨nY2, Below.refl _ _, fun _ h => h.elim⟩ ?round2 ?end2
      case round2 =>
        rintro l9 pre x S vs W9 hC hS ⟨post, hpost⟩ ⟨n9, sl9, rfl, hi9, hok9⟩ hsz9
        obtain ⟨a9, c9, rfl, _⟩ := hi9.len
        have hpl : pre.length < T.length := by rw [hpost]; simp
        have hTx : T[pre.length] = x := by subst hpost; simp
        gi_wp2
        refine ⟨KeptP.alloc _ _ _ _ _, fun U => Cn nb2 Y2 (fun l : List Vl => (l.length : Int)) pre S U ∧ ItemsAt U U.heap.size n9 (.slice a9 x.items.length c9) x.items ∧ U.heap[W9.heap.size]? = some (.cells (vcells x (.slice a9 x.items.length c9)) 25 (0, 0)), ?_, ⟨(Cn.own _ lY2).alloc _ hC, (hi9.below (alloc_v (Below.refl _ _) _)).up (by simp), World.alloc_heap_new W9 _⟩, ?_⟩
        · rintro X' Y' row ⟨h1, h2, h3⟩ hg hr
          exact ⟨(Cn.own _ lY2).w.grown _ _ _ _ _ h1 hg (fun r e => .inl (hr r e)), (h2.keptS (fun b o v _ h => cell_other hg (fun r e => (hr r e).2) b o v h)).up hg.size, (hg.block _ (Array.getElem?_eq_some_iff.1 h3).1 (fun e => by have := (hr _ e.symm).1; omega)).trans h3⟩
        clear hC hi9
        rintro W₂ ⟨hC, hI2, hp2⟩ hsz2
        have hS4 := hSY2.later (hC.2.1.mono (by omega))
        have q0 := cells_at hp2 0 _ rfl
        have q1 := cells_at hp2 1 _ rfl
        have q2 := cells_at hp2 2 _ rfl
        have q3 := cells_at hp2 3 _ rfl
        have q4 := cells_at hp2 4 _ rfl
        have cn := hC.1.cell
        have cw := hS4.wnt.cell
        obtain ⟨b1, o1, s1, rfl, g1, p0, p1, p2, p3, p4, p5, p6⟩ := hS4.its.item pre.length hpl
        rw [hTx] at p0 p1 p2 p3 p5 p6
        have hge : ¬ ((T.length : Int) ≤ (pre.length : Int)) := by omega
        have hd : decide (T.length ≤ pre.length) = false := by simp; omega
        have r0 : (0 : Int) ≤ (pre.length : Int) := by omega
        have r1 : (pre.length : Int) < (T.length : Int) := by omega
        have hlw : wb < W₂.heap.size := hS4.wnt.lt
        have HA := hide (fun (U : World) (b : Below W₂.heap.size W₂ U) => alike_k n9 x x U U.heap.size N _ _ (Nat.le_refl _) ((hI2.below b).up b.size) ((p5.below (b.mono (by omega))).up (by have := b.size; omega)))
        simp only [ordV_self, decide_true] at HA
        have HC := hide hC
        have tW : Boxed W₂ e1 3 (.int .i64 1) := (hC.2.1.block e1 (by omega)).trans tY2
        have HN := hide (fun (w6 : World) (b6 : Below W₂.heap.size W₂ w6) => (show Boxed w6 nb2 3 (.int .i64 (pre.length : Int)) ∧ Boxed w6 e1 3 (.int .i64 1) ∧ Boxed w6 (s0 + 1) 3 (.int .i64 i) ∧ KeptP Y2.heap.size K S W₂ (w6.setCell ⟨nb2, 0, none⟩ (.int .i64 ((pre.length : Int) + 1))) ∧ Cn nb2 Y2 (fun l : List Vl => (l.length : Int)) (pre ++ [x]) S (w6.setCell ⟨nb2, 0, none⟩ (.int .i64 ((pre.length : Int) + 1))) from by
          have h6 := Cn.later hC lY2 b6
          have hp := h6.put lY2 (pre ++ [x])
          have hk := (KeptP.below (B := Y2.heap.size) (K := K) (S := S) b6).trans (h6.kept lY2 (fun k hk => by have := (hS4.kk k hk).1; omega) (.int .i64 ((pre.length : Int) + 1)))
          have hsn : (((pre ++ [x]).length : Nat) : Int) = (pre.length : Int) + 1 := by simp
          simp only [hsn] at hp
          exact ⟨h6.1, (b6.block e1 (by have := tW.lt; omega)).trans tW, (b6.block _ (by have := hS4.stp.lt; omega)).trans hS4.stp, hk, hp⟩))
        obtain ⟨xx1, yy1, rfl, _⟩ := p5.len
        clear hC hI2 hp2 p5 p6 hTx hpost hS4 tW
        gi_wp2
        apply region_once (R := fun W => Below W₂.heap.size W₂ W)
        case h =>
          gi_region_with (first
            | ((first | refine ⟨trivial, (fun h => by cases h), ?_⟩ | refine ⟨trivial, ?_⟩); gi_at_call 8; refine (callsIn_wide.2 (HA.out _ (by first | exact Below.refl _ _ | exact (Below.refl _ _).drew | exact (Below.refl _ _).drew.drew | exact (Below.refl _ _).drew.drew.drew | exact (Below.refl _ _).drew.drew.drew.drew))).mono ?_; rintro e w6 ⟨rfl, b6⟩; have b7 : Below W₂.heap.size W₂ w6 := (by first | exact b6 | exact trans_v (Below.refl _ _).drew b6 | exact trans_v (Below.refl _ _).drew.drew b6 | exact trans_v (Below.refl _ _).drew.drew.drew b6 | exact trans_v (Below.refl _ _).drew.drew.drew.drew b6)))
          all_goals exact NoPanic.normal ⟨rfl, rfl, b7⟩
        case k =>
          intro w6 b6
          obtain ⟨u1, u2, u3, u4, u5⟩ := HN.out w6 b6
          have cn6 := u1.cell
          have cf6 := u1.frozen
          have ct6 := u2.cell
          have ci6 := u3.cell
          have cn7 := (u1.set (.int .i64 ((pre.length : Int) + 1))).cell
          have ct7 := (u2.other (B' := nb2) (by omega) (.int .i64 ((pre.length : Int) + 1))).cell
          have R := hide (And.intro u4 u5)
          clear cn cw p0 p1 p2 p3 p4 q0 q1 q2 q3 q4 u1 u2 u3 u4 u5 HN HA
          gi_wp2
          exact R.out
      case end2 =>
        rintro S2 pre2 W9 (⟨rfl, hC⟩ | ⟨_, h⟩) hD
        rotate_left
        · exact h.elim
        have bYW := hC.2.1
        have hSW := hSY2.later (bYW.mono (by omega))
        have tW : Boxed W9 e1 3 (.int .i64 1) := (bYW.block e1 (by omega)).trans tY2
        have hK4 : W9.heap[d1]? = some (.deferred (some [])) := (bYW.block d1 (by omega)).trans hK3
        obtain ⟨d2, hd2⟩ : ∃ d2, Y2.heap.size = d2 := ⟨_, rfl⟩
        rw [hd2] at hD ⊢
        have cn := hC.1.cell
        have cw := hSW.wnt.cell
        have ct := tW.cell
        have ld2 : d2 < W9.heap.size := (Array.getElem?_eq_some_iff.1 hD).1
        clear hC hSY2 tY2 nY2 hK3
        gi_wp2
        obtain ⟨X3, hX3⟩ : ∃ X3, W9.alloc (.cells #[.int .i64 2] 3) = X3 := ⟨_, rfl⟩
        have hbX3 : Below W9.heap.size W9 X3 := by rw [← hX3]; exact alloc_v (Below.refl _ _) _
        have hSX3 := hSW.later (hbX3.mono hSW.sz)
        have tX3 : Boxed X3 W9.heap.size 3 (.int .i64 2) := by rw [← hX3]; exact World.alloc_heap_new W9 _
        have hK5 : X3.heap[d1]? = some (.deferred (some [])) := (hbX3.block _ (by omega)).trans hK4
        have hD5 : X3.heap[d2]? = some (.deferred (some [])) := (hbX3.block _ ld2).trans hD
        rw [hX3]
        obtain ⟨e2, he2⟩ : ∃ e2, W9.heap.size = e2 := ⟨_, rfl⟩
        rw [he2] at tX3 ld2 ⊢
        have t3 := tX3.cell
        clear hX3 hbX3 hSW ct tW hK4 hD he2 bYW cn cw
        rw [roundsIn_succ]
        have HAX := hide (HAL.out X3 hSX3.bel)
        have l0 := hSX3.lt0
        have l1 := hSX3.lt1
        have ls := hSX3.sz
        have lr := hSX3.res.lt
        have hle1 : d1 < X3.heap.size := (Array.getElem?_eq_some_iff.1 hK5).1
        have hle2 : d2 < X3.heap.size := (Array.getElem?_eq_some_iff.1 hD5).1
        gi_wp2_with ((first | refine ⟨trivial, (fun h => by cases h), ?_⟩ | refine ⟨trivial, ?_⟩); gi_at_call 9; refine (callsIn_wide.2 HAX.out).mono ?_; clear HAX; rintro e w8 ⟨rfl, b8⟩; have r8 : Boxed w8 (s0 + 2) 4 (.bool false) := (b8.block _ lr).trans hSX3.res; have c8 := r8.cell; have f8 := r8.frozen)
        have z8 := b8.size
        have p0 := (Below.heap_setCell w8 ⟨s0 + 2, 0, none⟩ (.bool true) d2 (by simp; omega)).trans ((b8.block _ hle2).trans hD5)
        have p1 := (World.putObj_heap_other (w := w8.setCell ⟨s0 + 2, 0, none⟩ (.bool true)) (o := .deferred none) (show d1 ≠ d2 by omega)).trans ((Below.heap_setCell w8 ⟨s0 + 2, 0, none⟩ (.bool true) d1 (by simp; omega)).trans ((b8.block _ hle1).trans hK5))
        have p2 := r8.set (.bool true)
        have bS : Below s0 w (w8.setCell ⟨s0 + 2, 0, none⟩ (.bool true)) := (hSX3.bel.trans (b8.mono (by omega))).setCell (by simp) _
        refine ⟨by simp, .inl ⟨_, _, rfl, run_takeDeferred p0, ⟨by simp, .inl ⟨_, _, rfl, run_takeDeferred p1, ?_⟩⟩⟩⟩
        have p3 : Boxed (((w8.setCell ⟨s0 + 2, 0, none⟩ (.bool true)).putObj d2 (.deferred none)).putObj d1 (.deferred none)) (s0 + 2) 4 (.bool true) := (World.putObj_heap_other (by omega)).trans ((World.putObj_heap_other (by omega)).trans p2)
        exact ⟨_, results_bool_box rfl _ _ ⟨s0 + 2, 0, none⟩ (.bool true) rfl Tryz.underlying4 p3.cell, rfl, by rw [hh0]; exact (bS.trans (belowK_b (w := w) (by omega) _ _ _ _ (by omega) p0 rfl rfl)).trans (belowK_b (w := w) (by omega) _ _ _ _ (by omega) p1 rfl rfl)⟩
end Go.Proofs.YtagolpdhjkcoeaaGreatDoor

/- For every value and every number, however the value is made: value.Parts answers an iterator over what the reference lists as the parts of the value, in order; it may be left early, and gone through again it goes through all of them. Condition: what is handed in is at most 1048576 in bulk (the upto statement). -/
namespace Go.Proofs.YtagolpdhjkcoeaaGreatDoor.valueParts
open Go.ChangeShapes Go.WideShapes Go.ChangeAt Go.RowKit
open Go.ChangeMaps (open_string)

set_option maxRecDepth 100000 in
theorem contract (H : Type) (enc : TypeId × Value → H) (W : World) (base : Nat) (args : Array Value) (ds gs : List (DataW H)) (before : List MemPlace)
    (hval : ∀ (j : Nat) t v, Tryz.f3.params[j]? = some t → args[j]? = some v → Value.okWide Tryz.prog W .any base t v)
    (hW : DataW.Whole enc Tryz.prog Tryz.f3.params.toList Rows.valuePartsSpec.vars false W args.toList ds gs before) (hL : laidMetH Tryz.prog laidL W) (hk : Rows.uptoBulkAll (ds ++ gs) ≤ 1048576) :
    Calls Tryz.prog 3 args W fun e W' => ∃ v, e = .returned v ∧ Rows.valuePartsSpec.post enc Tryz.prog Tryz.f3 false true false false W args v W' := by
  have hW' := hW
  obtain ⟨p, q, hA0, hV, rfl, hfz, hnd⟩ := hW
  have hA : DataW.TrodAll enc Tryz.prog W 0 (fun _ => true) true Tryz.f3.params.toList args.toList ds p := hA0
  rw [Tryz.params3] at hA hval
  obtain ⟨v0, vs0, d0, ds0, p0, q0, hargs, rfl, rfl, h0, r0⟩ := trodAll_cons hA
  obtain ⟨v1, vs1, d1, ds1, p1, q1, rfl, rfl, rfl, h1, r1⟩ := trodAll_cons r0
  obtain ⟨rfl, rfl, rfl⟩ := trodAll_nil r1
  obtain rfl : args = #[v0, v1] := by cases args; simp_all
  obtain ⟨rfl, rfl⟩ := trodVars_none hV
  simp only [List.append_nil, Rows.uptoBulkAll] at hk
  obtain ⟨cs0, rfl, _⟩ := okWide_struct Tryz.underlying25 (hval 0 25 v0 rfl rfl)
  have k0 := h0
  have lt0 : ∀ x ∈ p0, x.block < W.heap.size := by obtain ⟨m, hm⟩ := k0; exact DataW.trod_lt m _ _ _ hm
  obtain ⟨fuel0, hf0⟩ := h0
  obtain ⟨x0, sl0, ecs0, hI0, hs0, hok0⟩ := open_val fuel0 (cs := cs0.toList) hf0 (by omega)
  obtain rfl : cs0 = vcells x0 sl0 := by cases cs0; simpa using ecs0
  obtain ⟨n1, rfl, rfl, rfl, wf1⟩ := open_int Tryz.underlying3 (hval 1 3 v1 rfl rfl) h1
  have w1 := bounds_i64 wf1
  clear hA0
  simp only [List.append_nil] at hW'
  refine (valueParts_walk x0 n1 W _ sl0 (tabs_of_laid hL) hok0 (by omega) hI0).mono fun e W' ⟨he, bel⟩ => ?_
  subst he
  exact ⟨_, rfl, _, _, _, [], _, [], hW', trodAll_mk1 (shut_bool Tryz.underlying4 _), trodAll_cons_mk (Below.trod laidOut (by kernel_rfl) (of_decide_eq_true (by kernel_rfl)) k0 bel lt0) (trodAll_cons_mk (shut_int Tryz.underlying3 wf1) trodAll_mk0), rfl, bel.frame _, fun h => by cases h⟩

theorem laid_met (os : Os) : laidMet Tryz.prog Rows.valuePartsUptoRow.laid ((laidWorld os).forCall (fun _ _ => 0) ⟨#[], #[.agg #[.int .i64 0, .int .i64 0, .int .i64 0, .string ⟨#[]⟩, .slice none 0 0], .int .i64 0], []⟩).memory :=
  laidMet_of_run' 8 (by kernel_rfl) (by kernel_rfl)
theorem reads (os : Os) {H : Type} (enc : TypeId × Value → H) : ∃ places, DataW.whole enc Tryz.prog ((laidWorld os).forCall (fun _ _ => 0) ⟨#[], #[.agg #[.int .i64 0, .int .i64 0, .int .i64 0, .string ⟨#[]⟩, .slice none 0 0], .int .i64 0], []⟩).memory Tryz.f3.params.toList Rows.valuePartsSpec.vars false #[Value.agg #[.int .i64 0, .int .i64 0, .int .i64 0, .string ⟨#[]⟩, .slice none 0 0], Value.int .i64 0].toList 8 = some ([.agg [.lit (.int .i64 0), .lit (.int .i64 0), .lit (.int .i64 0), .lit (.string []), .nil], .lit (.int .i64 0)], [], places) :=
  ⟨[], by kernel_rfl⟩

set_option maxRecDepth 100000 in
theorem liftedUpto (os : Os) (started : os.Started) (H : Type) (enc : TypeId × Value → H) (F : Stop.Interp) :
    ReturnsInHanded {} Tryz.checked os 3 .any ((Rows.OpenSpec.upto Rows.valuePartsSpec).preRow enc Tryz.prog Tryz.f3 Rows.valuePartsUptoRow.domain false Rows.valuePartsUptoRow.laid) (((Rows.OpenSpec.upto Rows.valuePartsSpec).at F).post enc Tryz.prog Tryz.f3 false true false false) := by
  obtain ⟨places, hx⟩ := reads os enc
  refine returnsInHanded_of_row (C := Tryz.checked) (s := Rows.OpenSpec.upto Rows.valuePartsSpec) own started (by kernel_rfl) Tryz.func3
    (witness_row_at (enc := enc) (C := Tryz.checked) false (laidWorld os) #[.agg #[.int .i64 0, .int .i64 0, .int .i64 0, .string ⟨#[]⟩, .slice none 0 0], .int .i64 0] rfl (by kernel_rfl) (by kernel_rfl) (by kernel_rfl)
      (OpenSpec.preRow_of_cond 8 hx (by kernel_rfl) (fun k hk => by cases hk; kernel_rfl) (by kernel_rfl) (laid_met os))) ?_
  intro W base args ds gs before hval hW _ hcond _ hL _ _
  exact contract H enc W base args ds gs before hval hW hL (of_decide_eq_true (hcond _ rfl))

theorem saidUpto : Rows.ValuePartsUptoSaid :=
  OpenClaim.holds_of_cond 3 Tryz.f3 rfl rfl rfl rfl rfl rfl rfl ⟨rfl, rfl, rfl, rfl, rfl⟩ rfl rfl rfl rfl rfl (by kernel_rfl) Tryz.func3 (by kernel_rfl)
    (of_decide_eq_true (by kernel_rfl)) (by unfold Func.isWrapper; first | (rw [if_pos (by decide +kernel)]; kernel_rfl) | (rw [if_neg (by decide +kernel)]; exact ⟨rfl, rfl⟩))
    (fun os started H enc _ F => by rw [OpenClaim.pre_eq_preRow]; exact liftedUpto os started H enc F)

theorem plain (f : FuncId) (fn : Func) (hf : Tryz.pinned.checked.prog.funcNamed Rows.valuePartsRow.func = some f) (hfn : Tryz.pinned.checked.prog.funcs[f]? = some fn) :
    true = Tryz.pinned.checked.prog.looks [] ∧ ∀ (j : Nat) t, fn.params[j]? = some t → Tryz.pinned.checked.prog.wantsStandIn t = false := by
  obtain rfl : f = 3 := Option.some.inj ((show Tryz.prog.funcNamed Rows.valuePartsRow.func = some 3 by kernel_rfl).symm.trans hf) |>.symm
  obtain rfl : fn = Tryz.f3 := (Option.some.inj (Tryz.func3.symm.trans hfn)).symm
  refine ⟨by kernel_rfl, fun j t ht => ?_⟩
  rw [Tryz.params3] at ht
  have hm : t = 25 ∨ t = 3 := by simpa using Array.mem_of_getElem? ht
  rcases hm with rfl | rfl
  · exact (show Tryz.prog.wantsStandIn 25 = false by kernel_rfl)
  · exact (show Tryz.prog.wantsStandIn 3 = false by kernel_rfl)

theorem cardUpto : Rows.ValuePartsUptoCardSaid :=
  Claim7.holds_tied_plain_at .later [] _ _ _ _ saidUpto (fun _ h => by cases h) (by kernel_rfl) (fun _ h => by cases h) valuePartsUpto_row_tie rfl ⟨rfl, rfl⟩ (by kernel_rfl) rfl plain (by kernel_rfl)
end Go.Proofs.YtagolpdhjkcoeaaGreatDoor.valueParts
namespace Go.Proofs.YtagolpdhjkcoeaaGreatDoor
theorem valueParts_upto : Rows.ValuePartsUptoCardSaid := valueParts.cardUpto
#print axioms valueParts_upto
end Go.Proofs.YtagolpdhjkcoeaaGreatDoor
