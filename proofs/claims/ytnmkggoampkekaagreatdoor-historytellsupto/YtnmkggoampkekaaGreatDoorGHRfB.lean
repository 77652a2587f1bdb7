/- The reference's operations in memory, while they are made. -/
import Derived.Test.YtnmkggoampkekaaGreatDoorGVCC
import Derived.Test.YtnmkggoampkekaaGreatDoorGHTkG
import Derived.Test.YtnmkggoampkekaaGreatDoorZVRefCopy
import Derived.Test.YtnmkggoampkekaaGreatDoorGHOpsG
namespace Go.Proofs.YtnmkggoampkekaaGreatDoor
open Go.RowKit Go.Maps

/-- A block that is none of the three rows'. -/
def NoRow (w : World) (v0 v1 v2 : Value) (b : Nat) : Prop := b < w.heap.size ∧ v0.ownBlock ≠ some b ∧ v1.ownBlock ≠ some b ∧ v2.ownBlock ≠ some b
def CvIn (w : World) (S : Nat → Prop) (n : Nat) (x : CV) : Prop := ItemsIn w S n x.2.1 x.1.arg.items ∧ ItemsIn w S n x.2.2 x.1.reply.items ∧ x.1.arg.ok ∧ x.1.reply.ok ∧ x.1.arg.size ≤ 1000000000 ∧ x.1.reply.size ≤ 1000000000 ∧ x.1.op.length ≤ 1048576
theorem CvIn.kept {w w' : World} {S S' : Nat → Prop} {n : Nat} {x : CV} (hk : ∀ b o, S b → w'.cell? ⟨b, o, none⟩ = w.cell? ⟨b, o, none⟩) (hS : ∀ b, S b → S' b) (h : CvIn w S n x) : CvIn w' S' n x :=
  ⟨h.1.kept hk hS, h.2.1.kept hk hS, h.2.2⟩
/-- Operations in the making: I are the blocks in which their values' items lie. -/
structure RAt (w : World) (h0 n : Nat) (I : Nat → Prop) (g : Gs) (v0 v1 v2 : Value) (rs : List CV) : Prop where
  pr : w.ownsRow h0 9 1 v0 g.procs.length (strs g.procs)
  ob : w.ownsRow h0 9 1 v1 g.objs.length (strs g.objs)
  cl : w.ownsRow h0 69 15 v2 g.calls.length (crow rs)
  same : rs.map (·.1) = g.calls
  its : ∀ x ∈ rs, CvIn w I n x
  no : ∀ b, I b → NoRow w v0 v1 v2 b
  dis : ∀ k, v0.ownBlock = some k → v1.ownBlock ≠ some k
  sz : h0 ≤ w.heap.size
theorem cell_block {w w' : World} {b : Nat} (h : w'.heap[b]? = w.heap[b]?) (o : Nat) : w'.cell? ⟨b, o, none⟩ = w.cell? ⟨b, o, none⟩ := World.cell?_of_block h
theorem RAt.below {w w' : World} {h0 n : Nat} {I : Nat → Prop} {g : Gs} {v0 v1 v2 : Value} {rs : List CV} (h : RAt w h0 n I g v0 v1 v2 rs) (hb : Below w.heap.size w w') : RAt w' h0 n I g v0 v1 v2 rs := by
  have kp := Keeps.below (M := fun _ => False) hb
  refine ⟨kp.row h.pr (fun _ _ h => h), kp.row h.ob (fun _ _ h => h), kp.row h.cl (fun _ _ h => h), h.same, fun x hx => (h.its x hx).kept (fun b o hS => cell_block (hb.block b (h.no b hS).1) o) (fun _ hS => hS), fun b hS => ⟨Nat.lt_of_lt_of_le (h.no b hS).1 hb.size, (h.no b hS).2⟩, h.dis, Nat.le_trans h.sz hb.size⟩
/-- A block that is none of theirs is written. -/
theorem RAt.keep {w w' : World} {h0 n r : Nat} {I : Nat → Prop} {g : Gs} {v0 v1 v2 : Value} {rs : List CV} (h : RAt w h0 n I g v0 v1 v2 rs) (kp : Keeps (fun x => x = r) w w') (hI : ¬ I r) (h0' : v0.ownBlock ≠ some r) (h1' : v1.ownBlock ≠ some r) (h2' : v2.ownBlock ≠ some r) : RAt w' h0 n I g v0 v1 v2 rs :=
  ⟨kp.row h.pr (fun k e h => h0' (by rw [e, h])), kp.row h.ob (fun k e h => h1' (by rw [e, h])), kp.row h.cl (fun k e h => h2' (by rw [e, h])), h.same, fun x hx => (h.its x hx).kept (fun b o hS => cell_block (kp.block b (h.no b hS).1 (fun e => hI (by rw [← e]; exact hS))) o) (fun _ hS => hS), fun b hS => ⟨Nat.lt_of_lt_of_le (h.no b hS).1 kp.size, (h.no b hS).2⟩, h.dis, Nat.le_trans h.sz kp.size⟩
theorem CvIn.mono {w : World} {S S' : Nat → Prop} {n : Nat} {x : CV} (h : CvIn w S n x) (hS : ∀ b, S b → S' b) : CvIn w S' n x := h.kept (fun _ _ _ => rfl) hS
theorem RAt.answered {w W : World} {h0 n gc cc : Nat} {I J : Nat → Prop} {g : Gs} {v0 v1 : Value} {rs : List CV} (h : RAt w h0 n I g v0 v1 (.slice (some ⟨gc, 0, none⟩) g.calls.length cc) rs) (c0 at' : Nat) (hc0 : c0 < rs.length) (v : Vl) (s : Value)
    (kp : Keeps (fun x => x = gc) w W) (row : W.ownsRow h0 69 15 (.slice (some ⟨gc, 0, none⟩) g.calls.length cc) g.calls.length (crow (rs.set c0 ({ rs[c0].1 with res := (at' : Int), reply := v }, rs[c0].2.1, s))))
    (hi : ItemsIn W J n s v.items) (hJ : ∀ b, J b → NoRow W v0 v1 (.slice (some ⟨gc, 0, none⟩) g.calls.length cc) b) (hok : v.ok) (hz : v.size ≤ 1000000000) :
    RAt W h0 n (fun b => I b ∨ J b) { g with calls := answer g.calls c0 at' v } v0 v1 (.slice (some ⟨gc, 0, none⟩) g.calls.length cc) (rs.set c0 ({ rs[c0].1 with res := (at' : Int), reply := v }, rs[c0].2.1, s)) := by
  have hne : ∀ {u : Value} {t : TypeId} {z m : Nat} {xs : List Value}, w.ownsRow h0 t z u m xs → t ≠ 69 → ∀ x, u.ownBlock = some x → ¬ x = gc := fun hr ht x ex e => by
    subst e
    exact row_types hr h.cl ht _ ex rfl
  have hk : ∀ b o, I b → W.cell? ⟨b, o, none⟩ = w.cell? ⟨b, o, none⟩ := fun b o hS => cell_block (kp.block b (h.no b hS).1 (fun e => (h.no b hS).2.2.2 (by rw [e]; rfl))) o
  refine ⟨kp.row h.pr (hne h.pr (by decide)), kp.row h.ob (hne h.ob (by decide)), by dsimp only; rw [answer_len]; exact row, same_answer h.same (by omega) rfl, fun x hx => ?_, fun b hS => ?_, h.dis, Nat.le_trans h.sz kp.size⟩
  · rcases List.mem_or_eq_of_mem_set hx with hx | rfl
    · exact (h.its x hx).kept hk (fun _ hS => .inl hS)
    · have h1 : CvIn W (fun b => I b ∨ J b) n rs[c0] := (h.its rs[c0] (List.getElem_mem _)).kept hk (fun _ hS => .inl hS)
      exact ⟨h1.1, hi.kept (fun _ _ _ => rfl) (fun _ hS => .inr hS), h1.2.2.1, hok, h1.2.2.2.2.1, hz, h1.2.2.2.2.2.2⟩
  · rcases hS with hS | hS
    · exact ⟨Nat.lt_of_lt_of_le (h.no b hS).1 kp.size, (h.no b hS).2⟩
    · exact hJ b hS
theorem RAt.pushed {w W : World} {h0 n q cap : Nat} {I J : Nat → Prop} {g : Gs} {v0 v1 v2 : Value} {rs : List CV} (h : RAt w h0 n I g v0 v1 v2 rs) (x : CV)
    (hr : W.ownsRow h0 69 15 (.slice (some ⟨q, 0, none⟩) (g.calls.length + 1) cap) (g.calls.length + 1) (crow rs ++ clOf x)) (gr : w.grownBy W v2.ownBlock) (lie : v2.ownBlock = some q ∨ w.heap.size ≤ q)
    (hx : CvIn w J n x) (hJ : ∀ b, J b → NoRow w v0 v1 v2 b) : RAt W h0 n (fun b => I b ∨ J b) { g with calls := g.calls ++ [x.1] } v0 v1 (.slice (some ⟨q, 0, none⟩) (g.calls.length + 1) cap) (rs ++ [x]) := by
  have kA : Keeps (fun y => v2.ownBlock = some y) w W := Keeps.grown gr (fun r e => e)
  have hrow : ∀ {v : Value} {t : TypeId} {z m : Nat} {xs : List Value}, w.ownsRow h0 t z v m xs → t ≠ 69 → ∀ y, v.ownBlock = some y → ¬ (v2.ownBlock = some y) := fun hr ht y ey e => row_types hr h.cl ht _ ey e
  have hk : ∀ b o, NoRow w v0 v1 v2 b → W.cell? ⟨b, o, none⟩ = w.cell? ⟨b, o, none⟩ := fun b o hS => cell_block (kA.block b hS.1 hS.2.2.2) o
  have hS : ∀ b, NoRow w v0 v1 v2 b → NoRow W v0 v1 (.slice (some ⟨q, 0, none⟩) (g.calls.length + 1) cap) b := fun b hb => ⟨Nat.lt_of_lt_of_le hb.1 kA.size, hb.2.1, hb.2.2.1, fun e => by
    have e' : q = b := Option.some.inj e
    rcases lie with l | l
    · exact hb.2.2.2 (by rw [l, e'])
    · have := hb.1; omega⟩
  refine ⟨kA.row h.pr (hrow h.pr (by decide)), kA.row h.ob (hrow h.ob (by decide)), by rw [crow_snoc]; simpa using hr, by rw [List.map_append, h.same]; rfl, fun y hy => ?_, fun b hb => hS b (hb.elim (h.no b) (hJ b)), h.dis, Nat.le_trans h.sz kA.size⟩
  rcases List.mem_append.1 hy with hy | hy
  · exact (h.its y hy).kept (fun b o hS => hk b o (h.no b hS)) (fun _ hS => .inl hS)
  · simp at hy
    subst hy
    exact hx.kept (fun b o hS => hk b o (hJ b hS)) (fun _ hS => .inr hS)
/-- A process more. -/
theorem RAt.procd {w W : World} {h0 n q cap : Nat} {I : Nat → Prop} {g : Gs} {v0 v1 v2 : Value} {rs : List CV} (h : RAt w h0 n I g v0 v1 v2 rs) (s : List UInt8)
    (hr : W.ownsRow h0 9 1 (.slice (some ⟨q, 0, none⟩) (g.procs.length + 1) cap) (g.procs.length + 1) (strs (g.procs ++ [s]))) (gr : w.grownBy W v0.ownBlock) (lie : v0.ownBlock = some q ∨ w.heap.size ≤ q) :
    RAt W h0 n I { g with procs := g.procs ++ [s] } (.slice (some ⟨q, 0, none⟩) (g.procs.length + 1) cap) v1 v2 rs := by
  have kA : Keeps (fun y => v0.ownBlock = some y) w W := Keeps.grown gr (fun r e => e)
  have hk : ∀ b o, NoRow w v0 v1 v2 b → W.cell? ⟨b, o, none⟩ = w.cell? ⟨b, o, none⟩ := fun b o hS => cell_block (kA.block b hS.1 hS.2.1) o
  have hS : ∀ b, NoRow w v0 v1 v2 b → NoRow W (.slice (some ⟨q, 0, none⟩) (g.procs.length + 1) cap) v1 v2 b := fun b hb => ⟨Nat.lt_of_lt_of_le hb.1 kA.size, fun e => by
    have e' : q = b := Option.some.inj e
    rcases lie with l | l
    · exact hb.2.1 (by rw [l, e'])
    · have := hb.1; omega, hb.2.2⟩
  refine ⟨by simpa using hr, kA.row h.ob (fun y ey e => h.dis y e ey), kA.row h.cl (fun y ey e => row_types h.pr h.cl (by decide) y e ey), h.same, fun y hy => (h.its y hy).kept (fun b o hI => hk b o (h.no b hI)) (fun _ hI => hI), fun b hI => hS b (h.no b hI), fun k e e2 => ?_, Nat.le_trans h.sz kA.size⟩
  have e' : q = k := Option.some.inj e
  rcases lie with l | l
  · exact h.dis k (by rw [l, e']) e2
  · have := (h.ob.lt k e2).2; omega
/-- An object more. -/
theorem RAt.objd {w W : World} {h0 n q cap : Nat} {I : Nat → Prop} {g : Gs} {v0 v1 v2 : Value} {rs : List CV} (h : RAt w h0 n I g v0 v1 v2 rs) (s : List UInt8)
    (hr : W.ownsRow h0 9 1 (.slice (some ⟨q, 0, none⟩) (g.objs.length + 1) cap) (g.objs.length + 1) (strs (g.objs ++ [s]))) (gr : w.grownBy W v1.ownBlock) (lie : v1.ownBlock = some q ∨ w.heap.size ≤ q) :
    RAt W h0 n I { g with objs := g.objs ++ [s] } v0 (.slice (some ⟨q, 0, none⟩) (g.objs.length + 1) cap) v2 rs := by
  have kA : Keeps (fun y => v1.ownBlock = some y) w W := Keeps.grown gr (fun r e => e)
  have hk : ∀ b o, NoRow w v0 v1 v2 b → W.cell? ⟨b, o, none⟩ = w.cell? ⟨b, o, none⟩ := fun b o hS => cell_block (kA.block b hS.1 hS.2.2.1) o
  have hS : ∀ b, NoRow w v0 v1 v2 b → NoRow W v0 (.slice (some ⟨q, 0, none⟩) (g.objs.length + 1) cap) v2 b := fun b hb => ⟨Nat.lt_of_lt_of_le hb.1 kA.size, hb.2.1, fun e => by
    have e' : q = b := Option.some.inj e
    rcases lie with l | l
    · exact hb.2.2.1 (by rw [l, e'])
    · have := hb.1; omega, hb.2.2.2⟩
  refine ⟨kA.row h.pr (fun y ey e => h.dis y ey e), by simpa using hr, kA.row h.cl (fun y ey e => row_types h.ob h.cl (by decide) y e ey), h.same, fun y hy => (h.its y hy).kept (fun b o hI => hk b o (h.no b hI)) (fun _ hI => hI), fun b hI => hS b (h.no b hI), fun k e e2 => ?_, Nat.le_trans h.sz kA.size⟩
  have e' : q = k := Option.some.inj e2
  rcases lie with l | l
  · exact h.dis k e (by rw [l, e'])
  · have := (h.pr.lt k e).2; omega
theorem RAt.start (w : World) (h0 n : Nat) (hz : h0 ≤ w.heap.size) : RAt w h0 n (fun _ => False) ⟨[], [], [], []⟩ (.slice none 0 0) (.slice none 0 0) (.slice none 0 0) [] :=
  ⟨World.ownsRow_nil _ _ _ _, World.ownsRow_nil _ _ _ _, World.ownsRow_nil _ _ _ _, rfl, (fun x h => by simp at h), (fun _ h => h.elim), (fun k e => by cases e), hz⟩
theorem ItemsAt.toIn {w : World} {B : Nat} : ∀ {n : Nat} {sl : Value} {its : List Vl}, ItemsAt w B n sl its → ItemsIn w (fun b => b < B) n sl its
  | 0, _, _, h => h.elim
  | n + 1, _, its, h => by
    obtain ⟨a, c, e, hl, hc⟩ := h
    refine ⟨a, c, e, hl, fun j hj => ?_⟩
    obtain ⟨b, off, s', e, hb, h0, h1, h2, h3, h4, h5, h6⟩ := hc j hj
    exact ⟨b, off, s', e, hb, h0, h1, h2, h3, h4, ItemsAt.toIn h5, h6⟩
end Go.Proofs.YtnmkggoampkekaaGreatDoor

/- The reference's add: where it refuses an event. -/
namespace Go.Proofs.YtnmkggoampkekaaGreatDoor
open Go.RowKit Go.Maps

theorem results_struct_tmpH {P : Program} {fn : Func} {p u : Tmp} {ty : TypeId} (h : fn.results = #[.cell p ty, .tmp u]) (tmps : Array Value) (w : World) (g : Nat) (t : TypeId) (cs : Array Value) (fr : Nat × Nat) (d : TypeDesc)
    (hp : tmps.getD p undef = .pointer (some ⟨g, 0, none⟩)) (hg : w.heap[g]? = some (.cells cs t fr))
    (hu : P.underlying ty = some d) (hd : (match d with | .struct _ | .array _ _ => true | _ => false) = true) (hi : (P.info? ty).map (·.size) = some cs.size) :
    (results fn tmps).run P w = .ok (.tuple #[.agg cs, tmps.getD u undef]) w := by
  rw [results_cell_tmp h, hp]
  simp [asAddr, run_loadVar_row w g t ty cs fr d hg hu hd hi]
set_option maxRecDepth 100000 in
set_option maxHeartbeats 4000000 in
theorem addIdle_k (e : Evn) (at' : Nat) (w : World) (h0 n : Nat) (I : Nat → Prop) (g : Gs) (v0 v1 v2 : Value) (rs : List CV) (s : Value) (hg : RAt w h0 n I g v0 v1 v2 rs) (hi : ItemsAt w h0 n s e.val.items) (hl0 : g.procs.length + 1 ≤ 1000000000) (hl2 : g.calls.length + 1 ≤ 1000000000) (hk : e.kind = 2) (hw : whoR g e.proc = -1) :
    Calls Tryz.prog 55 #[.agg #[v0, v1, v2], .agg (evCells e s), .int .i64 (at' : Int)] w fun r w' => (∃ y0 m0 d0 y1 m1 d1 y2 m2 d2, r = .returned (.tuple #[.agg #[.slice y0 m0 d0, .slice y1 m1 d1, .slice y2 m2 d2], .int .i64 70])) ∧ Below w.heap.size w w' := by
  have hrl : rs.length = g.calls.length := by have := congrArg List.length hg.same; simpa using this
  obtain ⟨a0, c0, rfl⟩ := rowLen hg.pr
  obtain ⟨a1, c1, rfl⟩ := rowLen hg.ob
  obtain ⟨a2, c2, rfl⟩ := rowLen hg.cl
  obtain ⟨sa, sc, rfl, _⟩ := hi.len
  obtain ⟨W1, hW1⟩ : ∃ W, w.alloc (.cells #[.slice a0 g.procs.length c0, .slice a1 g.objs.length c1, .slice a2 g.calls.length c2] 25) = W := ⟨_, rfl⟩
  obtain ⟨W2, hW2⟩ : ∃ W, W1.alloc (.cells (evCells e (.slice sa e.val.items.length sc)) 61) = W := ⟨_, rfl⟩
  obtain ⟨W, hW⟩ : ∃ W, W2.alloc (.cells #[.slice none 0 0, .slice none 0 0, .slice none 0 0] 25) = W := ⟨_, rfl⟩
  have b1 : Below w.heap.size w W1 := by rw [← hW1]; exact alloc_v (Below.refl _ _) _
  have b2 : Below W1.heap.size W1 W2 := by rw [← hW2]; exact alloc_v (Below.refl _ _) _
  have b3 : Below W2.heap.size W2 W := by rw [← hW]; exact alloc_v (Below.refl _ _) _
  have z1 : W1.heap.size = w.heap.size + 1 := by rw [← hW1]; simp
  have z2 : W2.heap.size = w.heap.size + 2 := by rw [← hW2]; simp [z1]
  have z3 : W.heap.size = w.heap.size + 3 := by rw [← hW]; simp [z2]
  have bW := trans_v (trans_v b1 b2) b3
  have e1 : W.heap[w.heap.size]? = some (.cells #[.slice a0 g.procs.length c0, .slice a1 g.objs.length c1, .slice a2 g.calls.length c2] 25 (0, 0)) := by
    refine (b3.block _ (by omega)).trans ((b2.block _ (by omega)).trans ?_)
    rw [← hW1]; exact World.alloc_heap_new w _
  have e2 : W.heap[w.heap.size + 1]? = some (.cells (evCells e (.slice sa e.val.items.length sc)) 61 (0, 0)) := by
    refine (b3.block _ (by omega)).trans ?_
    rw [← hW2, ← z1]; exact World.alloc_heap_new W1 _
  have e3 : W.heap[w.heap.size + 2]? = some (.cells #[.slice none 0 0, .slice none 0 0, .slice none 0 0] 25 (0, 0)) := by rw [← hW, ← z2]; exact World.alloc_heap_new W2 _
  have hgW := hg.below bW
  have HFD := hide (find_k7 g.procs e.proc W _ _ (NamesAt.row hgW.pr (by omega)) (Nat.le_refl _))
  have hclA : ClAt W W.heap.size (.slice a2 g.calls.length c2) g.calls := by
    have h1 := hgW.cl
    rw [← hrl] at h1
    have h2 := (HvsAt.row h1 (by omega)).cl
    rw [hg.same, hrl] at h2
    exact h2
  have HOP := hide (fun (p : Nat) => open_k7 W (.slice a0 g.procs.length c0) (.slice a1 g.objs.length c1) (.slice a2 g.calls.length c2) ⟨_, _, _, rfl⟩ ⟨_, _, _, rfl⟩ g.calls hclA p)
  have x0 := cells_at e1 0 _ rfl
  have x1 := cells_at e1 1 _ rfl
  have x2 := cells_at e1 2 _ rfl
  have y0 := cells_at e2 0 _ rfl
  have y1 := cells_at e2 1 _ rfl
  have BW := hide bW
  have E1 := hide e1
  have E2 := hide e2
  have E3 := hide e3
  have HG := hide hgW
  have Z3 := hide z3
  clear hclA e1 e2 e3 bW b1 b2 b3 hgW z3
  have hk2 : (e.kind == 2) = true := by simp [hk]
  by_cases hm : e.proc ∈ g.procs
  · have hf := fnd_in hm
    have ho : opnR g.calls (g.procs.idxOf e.proc) g.calls.length = -1 := by unfold whoR at hw; rwa [if_pos hm] at hw
    rw [hf] at HFD
    have HOP2 := hide (HOP.out (g.procs.idxOf e.proc))
    rw [ho] at HOP2
    clear HOP hf ho hw hm hk
    have HOP := HOP2
    clear HOP2
    generalize g.procs.idxOf e.proc = ix at *
    have i0 : (0 : Int) ≤ (ix : Int) := by omega
    go_enter Tryz.func55, Tryz.ntmps55
    go_wp2_with (first
      | (go_at_call 64; refine HFD.out.mono ?_; clear HFD; rintro r w9 ⟨rfl, rfl⟩)
      | (go_at_call 65; refine HOP.out.mono ?_; clear HOP; rintro r w2 ⟨rfl, b2⟩; have B2 := hide b2; have f1 := (b2.block w.heap.size (by have := Z3.out; omega)).trans E1.out; have f2 := (b2.block (w.heap.size + 1) (by have := Z3.out; omega)).trans E2.out; have u0 := cells_at f1 0 _ rfl; have u1 := cells_at f1 1 _ rfl; have u2 := cells_at f1 2 _ rfl; have t0 := cells_at f2 0 _ rfl; have F3 := hide ((b2.block (w.heap.size + 2) (by have := Z3.out; omega)).trans E3.out); have r0 := cells_at F3.out 0 _ rfl; have r1 := cells_at F3.out 1 _ rfl; have r2 := cells_at F3.out 2 _ rfl; have q0 := frozen_at F3.out 0; have q1 := frozen_at F3.out 1; have q2 := frozen_at F3.out 2; clear b2 f1 f2))
    have g1 := heap_setCell_same _ _ 0 _ _ (.slice a0 g.procs.length c0) F3.out
    have g2 := heap_setCell_same _ _ 1 _ _ (.slice a1 g.objs.length c1) g1
    have g3 := heap_setCell_same _ _ 2 _ _ (.slice a2 g.calls.length c2) g2
    refine bodyPost_ret (results_struct_tmpH rfl _ _ (w.heap.size + 2) _ _ _ _ rfl g3 Tryz.underlying25 rfl infoPast) rfl ?_
    have kp := ((Keeps.set w2 (w.heap.size + 2) 0 (.slice a0 g.procs.length c0)).trans (Keeps.set _ (w.heap.size + 2) 1 (.slice a1 g.objs.length c1)) (fun _ _ h => h)).trans (Keeps.set _ (w.heap.size + 2) 2 (.slice a2 g.calls.length c2)) (fun _ _ h => h)
    exact ⟨⟨_, _, _, _, _, _, _, _, _, rfl⟩, (trans_v BW.out B2.out).trans (kp.toBelow (by have := Z3.out; have := (trans_v BW.out B2.out).size; omega) (fun x h => by omega))⟩
  · have hf := fnd_no hm
    rw [hf] at HFD
    clear HOP hf hw hm hk
    have F3 := E3
    have r0 := cells_at F3.out 0 _ rfl
    have r1 := cells_at F3.out 1 _ rfl
    have r2 := cells_at F3.out 2 _ rfl
    have q0 := frozen_at F3.out 0
    have q1 := frozen_at F3.out 1
    have q2 := frozen_at F3.out 2
    go_enter Tryz.func55, Tryz.ntmps55
    go_wp2_with (go_at_call 64; refine HFD.out.mono ?_; clear HFD; rintro r w9 ⟨rfl, rfl⟩)
    have g1 := heap_setCell_same _ _ 0 _ _ (.slice a0 g.procs.length c0) F3.out
    have g2 := heap_setCell_same _ _ 1 _ _ (.slice a1 g.objs.length c1) g1
    have g3 := heap_setCell_same _ _ 2 _ _ (.slice a2 g.calls.length c2) g2
    refine bodyPost_ret (results_struct_tmpH rfl _ _ (w.heap.size + 2) _ _ _ _ rfl g3 Tryz.underlying25 rfl infoPast) rfl ?_
    have kp := ((Keeps.set W (w.heap.size + 2) 0 (.slice a0 g.procs.length c0)).trans (Keeps.set _ (w.heap.size + 2) 1 (.slice a1 g.objs.length c1)) (fun _ _ h => h)).trans (Keeps.set _ (w.heap.size + 2) 2 (.slice a2 g.calls.length c2)) (fun _ _ h => h)
    exact ⟨⟨_, _, _, _, _, _, _, _, _, rfl⟩, (BW.out).trans (kp.toBelow (by have := Z3.out; have := (BW.out).size; omega) (fun x h => by omega))⟩
set_option maxRecDepth 100000 in
set_option maxHeartbeats 4000000 in
theorem addBusy_k (e : Evn) (at' : Nat) (w : World) (h0 n : Nat) (I : Nat → Prop) (g : Gs) (v0 v1 v2 : Value) (rs : List CV) (s : Value) (hg : RAt w h0 n I g v0 v1 v2 rs) (hi : ItemsAt w h0 n s e.val.items) (hl0 : g.procs.length + 1 ≤ 1000000000) (hl2 : g.calls.length + 1 ≤ 1000000000) (hk : e.kind = 1) (hm : e.proc ∈ g.procs) (cb : Nat) (hw : whoR g e.proc = (cb : Int)) :
    Calls Tryz.prog 55 #[.agg #[v0, v1, v2], .agg (evCells e s), .int .i64 (at' : Int)] w fun r w' => (∃ y0 m0 d0 y1 m1 d1 y2 m2 d2, r = .returned (.tuple #[.agg #[.slice y0 m0 d0, .slice y1 m1 d1, .slice y2 m2 d2], .int .i64 71])) ∧ Below w.heap.size w w' := by
  have hrl : rs.length = g.calls.length := by have := congrArg List.length hg.same; simpa using this
  obtain ⟨a0, c0, rfl⟩ := rowLen hg.pr
  obtain ⟨a1, c1, rfl⟩ := rowLen hg.ob
  obtain ⟨a2, c2, rfl⟩ := rowLen hg.cl
  obtain ⟨sa, sc, rfl, _⟩ := hi.len
  obtain ⟨W1, hW1⟩ : ∃ W, w.alloc (.cells #[.slice a0 g.procs.length c0, .slice a1 g.objs.length c1, .slice a2 g.calls.length c2] 25) = W := ⟨_, rfl⟩
  obtain ⟨W2, hW2⟩ : ∃ W, W1.alloc (.cells (evCells e (.slice sa e.val.items.length sc)) 61) = W := ⟨_, rfl⟩
  obtain ⟨W, hW⟩ : ∃ W, W2.alloc (.cells #[.slice none 0 0, .slice none 0 0, .slice none 0 0] 25) = W := ⟨_, rfl⟩
  have b1 : Below w.heap.size w W1 := by rw [← hW1]; exact alloc_v (Below.refl _ _) _
  have b2 : Below W1.heap.size W1 W2 := by rw [← hW2]; exact alloc_v (Below.refl _ _) _
  have b3 : Below W2.heap.size W2 W := by rw [← hW]; exact alloc_v (Below.refl _ _) _
  have z1 : W1.heap.size = w.heap.size + 1 := by rw [← hW1]; simp
  have z2 : W2.heap.size = w.heap.size + 2 := by rw [← hW2]; simp [z1]
  have z3 : W.heap.size = w.heap.size + 3 := by rw [← hW]; simp [z2]
  have bW := trans_v (trans_v b1 b2) b3
  have e1 : W.heap[w.heap.size]? = some (.cells #[.slice a0 g.procs.length c0, .slice a1 g.objs.length c1, .slice a2 g.calls.length c2] 25 (0, 0)) := by
    refine (b3.block _ (by omega)).trans ((b2.block _ (by omega)).trans ?_)
    rw [← hW1]; exact World.alloc_heap_new w _
  have e2 : W.heap[w.heap.size + 1]? = some (.cells (evCells e (.slice sa e.val.items.length sc)) 61 (0, 0)) := by
    refine (b3.block _ (by omega)).trans ?_
    rw [← hW2, ← z1]; exact World.alloc_heap_new W1 _
  have e3 : W.heap[w.heap.size + 2]? = some (.cells #[.slice none 0 0, .slice none 0 0, .slice none 0 0] 25 (0, 0)) := by rw [← hW, ← z2]; exact World.alloc_heap_new W2 _
  have hgW := hg.below bW
  have HFD := hide (find_k7 g.procs e.proc W _ _ (NamesAt.row hgW.pr (by omega)) (Nat.le_refl _))
  have hclA : ClAt W W.heap.size (.slice a2 g.calls.length c2) g.calls := by
    have h1 := hgW.cl
    rw [← hrl] at h1
    have h2 := (HvsAt.row h1 (by omega)).cl
    rw [hg.same, hrl] at h2
    exact h2
  have HOP := hide (fun (p : Nat) => open_k7 W (.slice a0 g.procs.length c0) (.slice a1 g.objs.length c1) (.slice a2 g.calls.length c2) ⟨_, _, _, rfl⟩ ⟨_, _, _, rfl⟩ g.calls hclA p)
  have x0 := cells_at e1 0 _ rfl
  have x1 := cells_at e1 1 _ rfl
  have x2 := cells_at e1 2 _ rfl
  have y0 := cells_at e2 0 _ rfl
  have y1 := cells_at e2 1 _ rfl
  have BW := hide bW
  have E1 := hide e1
  have E2 := hide e2
  have E3 := hide e3
  have HG := hide hgW
  have Z3 := hide z3
  clear hclA e1 e2 e3 bW b1 b2 b3 hgW z3
  have hk2 : (e.kind == 2) = false := by simp [hk]
  have hf := fnd_in hm
  have ho : opnR g.calls (g.procs.idxOf e.proc) g.calls.length = (cb : Int) := by unfold whoR at hw; rwa [if_pos hm] at hw
  rw [hf] at HFD
  have HOP2 := hide (HOP.out (g.procs.idxOf e.proc))
  rw [ho] at HOP2
  clear HOP hf ho hw hm hk
  have HOP := HOP2
  clear HOP2
  generalize g.procs.idxOf e.proc = ix at *
  have i0 : (0 : Int) ≤ (ix : Int) := by omega
  have j0 : (0 : Int) ≤ (cb : Int) := by omega
  go_enter Tryz.func55, Tryz.ntmps55
  go_wp2_with (first
    | (go_at_call 64; refine HFD.out.mono ?_; clear HFD; rintro r w9 ⟨rfl, rfl⟩)
    | (go_at_call 65; refine HOP.out.mono ?_; clear HOP; rintro r w2 ⟨rfl, b2⟩; have B2 := hide b2; have f1 := (b2.block w.heap.size (by have := Z3.out; omega)).trans E1.out; have f2 := (b2.block (w.heap.size + 1) (by have := Z3.out; omega)).trans E2.out; have u0 := cells_at f1 0 _ rfl; have u1 := cells_at f1 1 _ rfl; have u2 := cells_at f1 2 _ rfl; have t0 := cells_at f2 0 _ rfl; have F3 := hide ((b2.block (w.heap.size + 2) (by have := Z3.out; omega)).trans E3.out); have r0 := cells_at F3.out 0 _ rfl; have r1 := cells_at F3.out 1 _ rfl; have r2 := cells_at F3.out 2 _ rfl; have q0 := frozen_at F3.out 0; have q1 := frozen_at F3.out 1; have q2 := frozen_at F3.out 2; clear b2 f1 f2))
  have g1 := heap_setCell_same _ _ 0 _ _ (.slice a0 g.procs.length c0) F3.out
  have g2 := heap_setCell_same _ _ 1 _ _ (.slice a1 g.objs.length c1) g1
  have g3 := heap_setCell_same _ _ 2 _ _ (.slice a2 g.calls.length c2) g2
  refine bodyPost_ret (results_struct_tmpH rfl _ _ (w.heap.size + 2) _ _ _ _ rfl g3 Tryz.underlying25 rfl infoPast) rfl ?_
  have kp := ((Keeps.set w2 (w.heap.size + 2) 0 (.slice a0 g.procs.length c0)).trans (Keeps.set _ (w.heap.size + 2) 1 (.slice a1 g.objs.length c1)) (fun _ _ h => h)).trans (Keeps.set _ (w.heap.size + 2) 2 (.slice a2 g.calls.length c2)) (fun _ _ h => h)
  exact ⟨⟨_, _, _, _, _, _, _, _, _, rfl⟩, (trans_v BW.out B2.out).trans (kp.toBelow (by have := Z3.out; have := (trans_v BW.out B2.out).size; omega) (fun x h => by omega))⟩
end Go.Proofs.YtnmkggoampkekaaGreatDoor
