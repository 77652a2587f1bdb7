/- Make: operations in memory of their own. -/
import Derived.Test.YtnmkggoampkekaaGreatDoorGHOpsG
import Derived.Test.YtnmkggoampkekaaGreatDoorGHCpy
import Derived.Deep.RegionLaw
import Derived.Deep.Cut
import Derived.Deep.CutRange
namespace Go.Proofs.YtnmkggoampkekaaGreatDoor
open Go.RowKit Go.Maps

/-- The values of an operation, in blocks of S that may be written. -/
def OwnCv (w : World) (S : Nat → Prop) (n : Nat) (x : CV) : Prop := ItemsS w S n x.2.1 x.1.arg.items ∧ ItemsS w S n x.2.2 x.1.reply.items
/-- Half of the operations of a row have copies for values. -/
structure Half (w : World) (L B n h0 gc cc k : Nat) (rs rs' : List CV) : Prop where
  cl : w.ownsRow L 69 15 (.slice (some ⟨gc, 0, none⟩) rs.length cc) rs.length (crow rs')
  same : rs'.map (·.1) = rs.map (·.1)
  new : ∀ j (h : j < rs'.length), j < k → OwnCv w (fun b => h0 ≤ b ∧ b < w.heap.size ∧ b ≠ gc) n rs'[j]
  old : ∀ j (h : j < rs'.length) (h' : j < rs.length), k ≤ j → rs'[j] = rs[j]
  its : ∀ x ∈ rs, CvAt w B n x
theorem Half.len {w : World} {L B n h0 gc cc k : Nat} {rs rs' : List CV} (h : Half w L B n h0 gc cc k rs rs') : rs'.length = rs.length := by have := congrArg List.length h.same; simpa using this
/-- One operation's values are copied. -/
theorem Half.put {w w5 : World} {L B n h0 gc cc k : Nat} {rs rs' : List CV} (h : Half w L B n h0 gc cc k rs rs') (hk : k < rs.length) (s1 s2 : Value) (hgl : gc < w.heap.size) (hBL : B ≤ gc) (_h0L : h0 ≤ w.heap.size)
    (kp : Keeps (fun x => x = gc) w w5) (hr : w5.ownsRow L 69 15 (.slice (some ⟨gc, 0, none⟩) rs.length cc) rs.length (crow (rs'.set k (rs[k].1, s1, s2)))) (i1 : ItemsS w5 (fun b => h0 ≤ b ∧ b < w5.heap.size ∧ b ≠ gc) n s1 rs[k].1.arg.items) (i2 : ItemsS w5 (fun b => h0 ≤ b ∧ b < w5.heap.size ∧ b ≠ gc) n s2 rs[k].1.reply.items) :
    Half w5 L B n h0 gc cc (k + 1) rs (rs'.set k (rs[k].1, s1, s2)) := by
  have hl := h.len
  have hz := kp.size
  refine ⟨hr, ?_, fun j hj hjk => ?_, fun j hj hj' hjk => ?_, fun x hx => (h.its x hx).below (kp.toBelow (by omega) (fun x h => by omega))⟩
  · have e := h.same
    apply List.ext_getElem
    · simp [hl]
    · intro i h1 h2
      simp only [List.getElem_map, List.getElem_set]
      split
      · rename_i e'; subst e'; rfl
      · have := List.getElem_map (fun x : CV => x.1) (l := rs') (i := i) (h := by simpa using h1)
        have e2 : (rs'.map (·.1))[i]'(by simpa using h1) = (rs.map (·.1))[i]'h2 := by simp only [e]
        simpa using e2
  · by_cases ej : j = k
    · subst ej
      simp only [List.getElem_set_self]
      exact ⟨i1, i2⟩
    · have hj' : j < rs'.length := by simpa using hj
      rw [List.getElem_set_ne (by omega)]
      have := h.new j hj' (by omega)
      have hk' : ∀ b, (h0 ≤ b ∧ b < w.heap.size ∧ b ≠ gc) → b < w.heap.size → w5.heap[b]? = w.heap[b]? := fun b hb hb2 => kp.block b hb2 hb.2.2
      exact ⟨this.1.kept hk' (fun b hb => ⟨hb.1, by omega, hb.2.2⟩), this.2.kept hk' (fun b hb => ⟨hb.1, by omega, hb.2.2⟩)⟩
  · have hj2 : j < rs'.length := by simpa using hj
    rw [List.getElem_set_ne (by omega)]
    exact h.old j hj2 hj' (by omega)
/-- Operations that share nothing with what was there. -/
structure MadeAt (w : World) (h0 L n : Nat) (g : Gs) (v0 v1 v2 : Value) (rs : List CV) : Prop where
  pr : w.ownsRow L 9 1 v0 g.procs.length (strs g.procs)
  ob : w.ownsRow L 9 1 v1 g.objs.length (strs g.objs)
  cl : w.ownsRow L 69 15 v2 g.calls.length (crow rs)
  same : rs.map (·.1) = g.calls
  own : ∀ x ∈ rs, OwnCv w (fun b => h0 ≤ b ∧ b < w.heap.size ∧ some b ≠ v2.ownBlock) n x
  oks : ∀ x ∈ rs, x.1.arg.ok ∧ x.1.reply.ok ∧ x.1.arg.size ≤ 1000000000 ∧ x.1.reply.size ≤ 1000000000 ∧ x.1.op.length ≤ 1048576
/-- What Make answers. -/
def MakeR (l : List Evn) (n h0 : Nat) (w' : World) (v0 v1 v2 : Value) (at' : Nat) (code : Int) : Prop :=
  (Refused l at' code ∧ v0 = .slice none 0 0 ∧ v1 = .slice none 0 0 ∧ v2 = .slice none 0 0) ∨ (code = 0 ∧ at' = 0 ∧ Fine l l.length ∧ NoLarge l ∧ ∃ rs L, h0 ≤ L ∧ L ≤ w'.heap.size ∧ MadeAt w' h0 L n (gAt l l.length) v0 v1 v2 rs)
theorem ops_forms {l : List Evn} {at' n h0 : Nat} {code : Int} {w' : World} {v0 v1 v2 : Value} (h : (Refused l at' code ∧ v0 = .slice none 0 0 ∧ v1 = .slice none 0 0 ∧ v2 = .slice none 0 0) ∨ (code = 0 ∧ at' = 0 ∧ Fine l l.length ∧ NoLarge l ∧ ∃ rs L B, h0 ≤ L ∧ B ≤ L ∧ L ≤ w'.heap.size ∧ PastAt w' L B (n + 1) (gAt l l.length) v0 v1 v2 rs)) :
    (∃ a m c, v0 = .slice a m c) ∧ (∃ a m c, v1 = .slice a m c) ∧ (∃ a m c, v2 = .slice a m c) := by
  rcases h with ⟨_, h0, h1, h2⟩ | ⟨_, _, _, _, rs, L, B, _, _, _, hp⟩
  · exact ⟨⟨_, _, _, h0⟩, ⟨_, _, _, h1⟩, ⟨_, _, _, h2⟩⟩
  · obtain ⟨x0, y0, h0⟩ := rowLen hp.pr
    obtain ⟨x1, y1, h1⟩ := rowLen hp.ob
    obtain ⟨x2, y2, h2⟩ := rowLen hp.cl
    exact ⟨⟨_, _, _, h0⟩, ⟨_, _, _, h1⟩, ⟨_, _, _, h2⟩⟩
/-- A value is stored into an operation of a row, at o. -/
theorem crow_put5 {w : World} {L gc cc m : Nat} {rs : List CV} (hr : w.ownsRow L 69 15 (.slice (some ⟨gc, 0, none⟩) m cc) m (crow rs)) (k o : Nat) (hk : k < rs.length) (ho : o + 4 < 15) (v : Vl) (s : Value) (y : CV)
    (hy : (((((clOf rs[k]).set o (.int .i64 v.kind)).set (o + 1) (.int .i64 v.int)).set (o + 2) (.int .i64 v.im)).set (o + 3) (.string v.text)).set (o + 4) s = clOf y) :
    (((((w.setCell ⟨gc, k * 15 + o, none⟩ (.int .i64 v.kind)).setCell ⟨gc, k * 15 + o + 1, none⟩ (.int .i64 v.int)).setCell ⟨gc, k * 15 + o + 2, none⟩ (.int .i64 v.im)).setCell ⟨gc, k * 15 + o + 3, none⟩ (.string v.text)).setCell ⟨gc, k * 15 + o + 4, none⟩ s).ownsRow L 69 15 (.slice (some ⟨gc, 0, none⟩) m cc) m (crow (rs.set k y)) ∧
    Keeps (fun x => x = gc) w (((((w.setCell ⟨gc, k * 15 + o, none⟩ (.int .i64 v.kind)).setCell ⟨gc, k * 15 + o + 1, none⟩ (.int .i64 v.int)).setCell ⟨gc, k * 15 + o + 2, none⟩ (.int .i64 v.im)).setCell ⟨gc, k * 15 + o + 3, none⟩ (.string v.text)).setCell ⟨gc, k * 15 + o + 4, none⟩ s) := by
  have s1 := hr.stored (k * 15 + o) (.int .i64 v.kind)
  have s2 := s1.1.stored (k * 15 + o + 1) (.int .i64 v.int)
  have s3 := s2.1.stored (k * 15 + o + 2) (.int .i64 v.im)
  have s4 := s3.1.stored (k * 15 + o + 3) (.string v.text)
  have s5 := s4.1.stored (k * 15 + o + 4) s
  have s7 := s5.1
  rw [crow_split rs k hk, crow_set rs k hk _ (by rfl) o (by omega), Nat.add_assoc (k * 15) o 1, crow_set rs k hk _ (by rw [List.length_set]; rfl) (o + 1) (by omega), Nat.add_assoc (k * 15) o 2, crow_set rs k hk _ (by rw [List.length_set, List.length_set]; rfl) (o + 2) (by omega), Nat.add_assoc (k * 15) o 3, crow_set rs k hk _ (by rw [List.length_set, List.length_set, List.length_set]; rfl) (o + 3) (by omega), Nat.add_assoc (k * 15) o 4, crow_set rs k hk _ (by rw [List.length_set, List.length_set, List.length_set, List.length_set]; rfl) (o + 4) (by omega), hy, ← crow_with rs k hk] at s7
  exact ⟨s7, ((((Keeps.set _ _ _ _).trans (Keeps.set _ _ _ _) (fun _ _ h => h)).trans (Keeps.set _ _ _ _) (fun _ _ h => h)).trans (Keeps.set _ _ _ _) (fun _ _ h => h)).trans (Keeps.set _ _ _ _) (fun _ _ h => h)⟩
set_option maxRecDepth 100000 in
set_option maxHeartbeats 4000000 in
theorem make_k (l : List Evn) (w : World) (n : Nat) (sl : Value) (hT : TabL w) (hi : EvsAt w w.heap.size (n + 1) sl l) :
    Calls Tryz.prog 21 #[sl] w fun e w' => (∃ v0 v1 v2 at' code, e = .returned (.tuple #[.agg #[v0, v1, v2], .int .i64 ((at' : Nat) : Int), .int .i64 code]) ∧ MakeR l (n + 1) w.heap.size w' v0 v1 v2 at' code) ∧ Below w.heap.size w w' := by
  obtain ⟨W, hW⟩ : ∃ W, w.alloc (.cells #[.slice none 0 0, .slice none 0 0, .slice none 0 0] 25) = W := ⟨_, rfl⟩
  have bW : Below w.heap.size w W := by rw [← hW]; exact alloc_v (Below.refl _ _) _
  have e1 : W.heap[w.heap.size]? = some (.cells #[.slice none 0 0, .slice none 0 0, .slice none 0 0] 25 (0, 0)) := by rw [← hW]; exact World.alloc_heap_new w _
  have zW : W.heap.size = w.heap.size + 1 := by rw [← hW]; simp
  have HL := hide (operations_k l W n sl (hT.below bW) ((hi.below bW).up bW.size))
  have HE := hide e1
  obtain ⟨a, c, rfl, hlen⟩ := hi.len
  clear hi hT e1
  go_enter Tryz.func21, Tryz.ntmps21
  go_upto_region 1 with (fail)
  go_upto_region 2 with (go_at_call 28; refine HL.out.mono ?_; clear HL; rintro r w1 ⟨⟨v0, v1, v2, at', code, rfl, hres⟩, b1⟩; obtain ⟨⟨a0, m0, c0, rfl⟩, ⟨a1, m1, c1, rfl⟩, ⟨a2, m2, c2, rfl⟩⟩ := ops_forms hres; have HRES := hide hres; have B1 := hide b1; clear hres b1)
  have b1 := B1.out
  have bw1 := trans_v bW b1
  have hz1 := b1.size
  obtain ⟨X, hX⟩ : ∃ X, w1.alloc (.cells #[.slice a0 m0 c0, .slice a1 m1 c1, .slice a2 m2 c2] 25) = X := ⟨_, rfl⟩
  have bX : Below w1.heap.size w1 X := by rw [← hX]; exact alloc_v (Below.refl _ _) _
  have eX : X.heap[w1.heap.size]? = some (.cells #[.slice a0 m0 c0, .slice a1 m1 c1, .slice a2 m2 c2] 25 (0, 0)) := by rw [← hX]; exact World.alloc_heap_new w1 _
  have fX := (bX.block w.heap.size (by omega)).trans ((b1.block w.heap.size (by omega)).trans HE.out)
  have zX : X.heap.size = w1.heap.size + 1 := by rw [← hX]; simp
  have x2 := cells_at eX 2 _ rfl
  rw [hX]
  clear hX
  by_cases hm : m2 = 0
  · subst hm
    have y0 := cells_at eX 0 _ rfl
    have y1 := cells_at eX 1 _ rfl
    have q0 := frozen_at fX 0
    have q1 := frozen_at fX 1
    have q2 := frozen_at fX 2
    have r0 := cells_at fX 0 _ rfl
    have r1 := cells_at fX 1 _ rfl
    have r2 := cells_at fX 2 _ rfl
    have HFX := hide fX
    have HEX := hide eX
    clear eX fX
    go_wp2
    go_loopw [19] (fun i wr => i = .int .i64 0 ∧ X = wr) (fun _ _ => 0)
    case atStart => exact ⟨rfl, rfl⟩
    case round =>
      obtain ⟨rfl, rfl⟩ := hrel
      go_wp2
      have g1 := heap_setCell_same _ _ 0 _ _ (.slice a0 m0 c0) HFX.out
      have g2 := heap_setCell_same _ _ 1 _ _ (.slice a1 m1 c1) g1
      have g3 := heap_setCell_same _ _ 2 _ _ (.slice a2 0 c2) g2
      refine bodyPost_ret (results_struct_two rfl _ _ w.heap.size _ _ _ _ rfl g3 Tryz.underlying25 rfl infoPast) rfl ?_
      have kp := ((Keeps.set X w.heap.size 0 (.slice a0 m0 c0)).trans (Keeps.set _ w.heap.size 1 (.slice a1 m1 c1)) (fun _ _ h => h)).trans (Keeps.set _ w.heap.size 2 (.slice a2 0 c2)) (fun _ _ h => h)
      have kq := (Keeps.below (M := fun x => x = w.heap.size) bX).trans kp (fun _ _ h => h)
      refine ⟨⟨_, _, _, at', code, rfl, ?_⟩, (trans_v bw1 bX).trans (kp.toBelow (by omega) (fun x h => by omega))⟩
      rcases HRES.out with h | ⟨h1, h2, h3, h4, rs, L, B, hL1, hL2, hL3, hp⟩
      · exact .inl h
      · have hrow : ∀ {v : Value} {t : TypeId} {z m : Nat} {xs : List Value}, w1.ownsRow L t z v m xs → ∀ y, v.ownBlock = some y → ¬ (y = w.heap.size) := fun hr y ey h => by have := (hr.lt _ ey).1; omega
        have hn : rs = [] := by
          obtain ⟨x, y, e⟩ := rowLen hp.cl
          simp only [Value.slice.injEq] at e
          have := congrArg List.length hp.same
          rw [List.length_map, ← e.2.1] at this
          exact List.eq_nil_of_length_eq_zero this
        subst hn
        exact .inr ⟨h1, h2, h3, h4, [], L, by omega, Nat.le_trans hL3 kq.size, kq.row hp.pr (hrow hp.pr), kq.row hp.ob (hrow hp.ob), kq.row hp.cl (hrow hp.cl), hp.same, fun x h => absurd h (by simp), fun x h => absurd h (by simp)⟩
  · rcases HRES.out with ⟨_, _, _, h⟩ | ⟨h1, h2, h3, h4, rs, L, B, hL1, hL2, hL3, hp⟩
    · simp only [Value.slice.injEq] at h
      exact absurd h.2.1 hm
    have hrl : rs.length = (gAt l l.length).calls.length := by have := congrArg List.length hp.same; simpa using this
    obtain ⟨gc, cc, ec, lc, ltc⟩ := hp.cl.form (by
      obtain ⟨x, y, e⟩ := rowLen hp.cl
      simp only [Value.slice.injEq] at e
      omega)
    simp only [Value.slice.injEq] at ec
    obtain ⟨rfl, ec2, rfl⟩ := ec
    have ec3 : m2 = rs.length := by omega
    subst ec3
    have hc0 : Half X L B (n + 1) (w.heap.size + 1) gc c2 0 rs rs := by
      have kx := Keeps.below (M := fun _ => False) bX
      have hcl := kx.row hp.cl (fun _ _ h => h)
      rw [← hrl] at hcl
      exact ⟨hcl, rfl, fun j h hj => by omega, fun j h h' hj => rfl, fun x hx => (hp.its x hx).below (bX.mono (by omega))⟩
    have HP := hide hp
    have hrb : rs.length ≤ 1000000000 := by have := (gAt_small l l.length).2.2.1; omega
    have HRL := hide hrl
    have H12 := hide (And.intro h1 h2)
    clear hrl h1 h2 ec2
    have HFX := hide fX
    have HEX := hide eX
    clear fX eX hp
    go_wp2
    clear x2
    go_loopw [8, 9, 19] (fun _ _ i wr => ∃ (k : Nat) (rs' : List CV), k ≤ rs.length ∧ i = .int .i64 k ∧ Half wr L B (n + 1) (w.heap.size + 1) gc c2 k rs rs' ∧ Keeps (fun x => x = gc) X wr) (fun _ _ i _ => rs.length - (intOf i).toNat)
    case atStart => exact ⟨0, rs, Nat.zero_le _, rfl, hc0, Keeps.refl _ _⟩
    case round =>
      obtain ⟨k, rs', hk, rfl, hh, kp⟩ := hrel
      by_cases hlt : k < rs.length
      · have hl := hh.len
        have hold := hh.old k (by omega) hlt (Nat.le_refl _)
        obtain ⟨x, hx⟩ : ∃ x, rs[k] = x := ⟨_, rfl⟩
        have hce : ∀ i v, (clOf x)[i]? = some v → wr.cell? ⟨gc, k * 15 + i, none⟩ = some v := fun i v h => by
          have hi15 : i < 15 := by
            have := (List.getElem?_eq_some_iff.1 h).1
            rwa [clOf_len] at this
          rw [hh.cl.cellAt (k * 15 + i) (by have := Nat.mul_le_mul_right 15 (show k + 1 ≤ rs.length by omega); omega), crow_get rs' k (by omega) i hi15, hold, hx]
          exact h
        have p0 : wr.cell? ⟨gc, k * 15, none⟩ = some (.int .i64 x.1.proc) := hce 0 _ rfl
        have p1 : wr.cell? ⟨gc, k * 15 + 1, none⟩ = some (.int .i64 x.1.obj) := hce 1 _ rfl
        have p2 : wr.cell? ⟨gc, k * 15 + 2, none⟩ = some (.string (bsN x.1.op)) := hce 2 _ rfl
        have p3 : wr.cell? ⟨gc, k * 15 + 3, none⟩ = some (.int .i64 x.1.arg.kind) := hce 3 _ rfl
        have p4 : wr.cell? ⟨gc, k * 15 + 4, none⟩ = some (.int .i64 x.1.arg.int) := hce 4 _ rfl
        have p5 : wr.cell? ⟨gc, k * 15 + 5, none⟩ = some (.int .i64 x.1.arg.im) := hce 5 _ rfl
        have p6 : wr.cell? ⟨gc, k * 15 + 6, none⟩ = some (.string x.1.arg.text) := hce 6 _ rfl
        have p7 : wr.cell? ⟨gc, k * 15 + 7, none⟩ = some (x.2.1) := hce 7 _ rfl
        have p8 : wr.cell? ⟨gc, k * 15 + 8, none⟩ = some (.int .i64 x.1.inv) := hce 8 _ rfl
        have p9 : wr.cell? ⟨gc, k * 15 + 9, none⟩ = some (.int .i64 x.1.res) := hce 9 _ rfl
        have p10 : wr.cell? ⟨gc, k * 15 + 10, none⟩ = some (.int .i64 x.1.reply.kind) := hce 10 _ rfl
        have p11 : wr.cell? ⟨gc, k * 15 + 11, none⟩ = some (.int .i64 x.1.reply.int) := hce 11 _ rfl
        have p12 : wr.cell? ⟨gc, k * 15 + 12, none⟩ = some (.int .i64 x.1.reply.im) := hce 12 _ rfl
        have p13 : wr.cell? ⟨gc, k * 15 + 13, none⟩ = some (.string x.1.reply.text) := hce 13 _ rfl
        have p14 : wr.cell? ⟨gc, k * 15 + 14, none⟩ = some (x.2.2) := hce 14 _ rfl
        have hcv := hh.its x (by rw [← hx]; exact List.getElem_mem _)
        obtain ⟨sa1, sc1, es1, _⟩ := hcv.1.len
        obtain ⟨sa2, sc2, es2, _⟩ := hcv.2.1.len
        have gl : gc < wr.heap.size := (hh.cl.lt gc rfl).2
        have k0 : (0 : Int) ≤ (k : Int) := by omega
        have k1 : (k : Int) < (rs.length : Int) := by omega
        have HCE := hide hce
        have HH := hide hh
        have HKP := hide kp
        have eW := (kp.block w1.heap.size (by omega) (by omega)).trans HEX.out
        have y2 := cells_at eW 2 _ rfl
        have HEW := hide eW
        clear hce hh kp hc0 eW
        rw [es1] at p7
        rw [es2] at p14
        go_wp2
        clear p0 p1 p2 p3 p4 p5 p6 p7 p8 p9 p10 p11 p12 p13 p14
        have bA : Below wr.heap.size wr (wr.alloc (.cells #[.int .i64 (x.1.proc : Int), .int .i64 (x.1.obj : Int), .string (bsN x.1.op), .int .i64 x.1.arg.kind, .int .i64 x.1.arg.int, .int .i64 x.1.arg.im, .string x.1.arg.text, .slice sa1 x.1.arg.items.length sc1, .int .i64 (x.1.inv : Int), .int .i64 x.1.res, .int .i64 x.1.reply.kind, .int .i64 x.1.reply.int, .int .i64 x.1.reply.im, .string x.1.reply.text, .slice sa2 x.1.reply.items.length sc2] 69)) := alloc_v (Below.refl _ _) _
        obtain ⟨Y, hY⟩ : ∃ Y, wr.alloc (.cells #[.int .i64 (x.1.proc : Int), .int .i64 (x.1.obj : Int), .string (bsN x.1.op), .int .i64 x.1.arg.kind, .int .i64 x.1.arg.int, .int .i64 x.1.arg.im, .string x.1.arg.text, .slice sa1 x.1.arg.items.length sc1, .int .i64 (x.1.inv : Int), .int .i64 x.1.res, .int .i64 x.1.reply.kind, .int .i64 x.1.reply.int, .int .i64 x.1.reply.im, .string x.1.reply.text, .slice sa2 x.1.reply.items.length sc2] 69) = Y := ⟨_, rfl⟩
        have eY : Y.heap[wr.heap.size]? = some (.cells #[.int .i64 (x.1.proc : Int), .int .i64 (x.1.obj : Int), .string (bsN x.1.op), .int .i64 x.1.arg.kind, .int .i64 x.1.arg.int, .int .i64 x.1.arg.im, .string x.1.arg.text, .slice sa1 x.1.arg.items.length sc1, .int .i64 (x.1.inv : Int), .int .i64 x.1.res, .int .i64 x.1.reply.kind, .int .i64 x.1.reply.int, .int .i64 x.1.reply.im, .string x.1.reply.text, .slice sa2 x.1.reply.items.length sc2] 69 (0, 0)) := by rw [← hY]; exact World.alloc_heap_new wr _
        rw [hY] at bA ⊢
        have hsw := HKP.out.size
        have zY : Y.heap.size = wr.heap.size + 1 := by rw [← hY]; simp
        have HC1 := hide (fun (U : World) (b : Below Y.heap.size Y U) => hcopied_k (n + 1) x.1.arg U B x.2.1 hcv.2.2.2.2.1 (by have := b.size; omega) (hcv.1.below ((trans_v bA b).mono (by omega))))
        have HC2 := hide (fun (U : World) (b : Below B wr U) (hz : B ≤ U.heap.size) => hcopied_k (n + 1) x.1.reply U B x.2.2 hcv.2.2.2.2.2.1 hz (hcv.2.1.below b))
        rw [es1] at HC1
        rw [es2] at HC2
        have t3 := cells_at eY 3 _ rfl
        have t4 := cells_at eY 4 _ rfl
        have t5 := cells_at eY 5 _ rfl
        have t6 := cells_at eY 6 _ rfl
        have t7 := cells_at eY 7 _ rfl
        have yY2 : Y.cell? ⟨w1.heap.size, 2, none⟩ = some (.slice (some ⟨gc, 0, none⟩) rs.length c2) := ((bcellV bA).1 _ _ (by omega)).trans y2
        have HFR := hide (fun (U : World) (b : Below Y.heap.size Y U) (i : Nat) (v : Value) (h : (clOf x)[i]? = some v) => (show U.cell? ⟨gc, k * 15 + i, none⟩ = some v ∧ U.frozen? ⟨gc, k * 15 + i, none⟩ = false from
          ⟨((bcellV (trans_v bA b)).1 _ _ gl).trans (HCE.out i v h), ((bcellV (trans_v bA b)).2 _ _ gl).trans (HH.out.cl.frozenAt _)⟩))
        have HY2 := hide (fun (U : World) (b : Below Y.heap.size Y U) => (show U.cell? ⟨w1.heap.size, 2, none⟩ = some (.slice (some ⟨gc, 0, none⟩) rs.length c2) from ((bcellV b).1 _ _ (by omega)).trans yY2))
        have HEY := hide eY
        clear eY hcv y2 hY
        go_cut [] from 24 to 31 (fun wx => ∃ sa4 sc4, wx.ownsRow L 69 15 (.slice (some ⟨gc, 0, none⟩) rs.length c2) rs.length (crow (rs'.set k (x.1, .slice sa4 x.1.arg.items.length sc4, x.2.2))) ∧ ItemsS wx (fun b => w.heap.size + 1 ≤ b ∧ b < wx.heap.size ∧ b ≠ gc) (n + 1) (.slice sa4 x.1.arg.items.length sc4) x.1.arg.items ∧ Keeps (fun y => y = gc) wr wx ∧ wx.heap[wr.heap.size]? = some (.cells #[.int .i64 (x.1.proc : Int), .int .i64 (x.1.obj : Int), .string (bsN x.1.op), .int .i64 x.1.arg.kind, .int .i64 x.1.arg.int, .int .i64 x.1.arg.im, .string x.1.arg.text, .slice sa1 x.1.arg.items.length sc1, .int .i64 (x.1.inv : Int), .int .i64 x.1.res, .int .i64 x.1.reply.kind, .int .i64 x.1.reply.int, .int .i64 x.1.reply.im, .string x.1.reply.text, .slice sa2 x.1.reply.items.length sc2] 69 (0, 0)))
        case first =>
          go_region_law
            ((go_simp; go_at_call 35; refine (HC1.out _ (by first | exact Below.refl _ _ | exact below_drewN _ 1 | exact below_drewN _ 2)).mono ?_; clear HC1; rintro r w4 ⟨s4, rfl, i4, b4'⟩; have b4 : Below Y.heap.size Y w4 := (by first | exact b4' | exact trans_v (below_drewN _ 1) b4' | exact trans_v (below_drewN _ 2) b4'); obtain ⟨sa4, sc4, rfl, _⟩ := i4.in.len; have I4 := hide i4; have yW4 := HY2.out w4 b4; obtain ⟨c3, z3⟩ := HFR.out w4 b4 3 _ rfl; obtain ⟨c4, z4⟩ := HFR.out w4 b4 4 _ rfl; obtain ⟨c5, z5⟩ := HFR.out w4 b4 5 _ rfl; obtain ⟨c6, z6⟩ := HFR.out w4 b4 6 _ rfl; obtain ⟨c7, z7⟩ := HFR.out w4 b4 7 _ rfl; have BB4 := hide b4; clear b4' b4 i4))
          all_goals
            go_wp2
            go_meet
            case rel =>
              have b4 := BB4.out
              have kr := HH.out.cl
              have k4 := Keeps.below (M := fun _ => False) (trans_v bA b4)
              have row4 := k4.row kr (fun _ _ h => h)
              obtain ⟨r5, k5⟩ := crow_put5 row4 k 3 (by omega) (by omega) x.1.arg (.slice sa4 x.1.arg.items.length sc4) (x.1, .slice sa4 x.1.arg.items.length sc4, x.2.2) (by rw [hold, hx]; rfl)
              have hz4 := (trans_v bA b4).size
              have hzb := b4.size
              refine ⟨sa4, sc4, r5, I4.out.kept (fun b hb hb2 => k5.block b hb2 (by have hb1 : Y.heap.size ≤ b := hb.1; omega)) (fun b hb => (by have hb1 : Y.heap.size ≤ b := hb.1; exact ⟨by omega, Nat.lt_of_lt_of_le hb.2 k5.size, by omega⟩)), (k4.mono (fun _ _ h => h.elim)).trans k5 (fun _ _ h => h), (k5.block _ (by omega) (by omega)).trans ((b4.block _ (by omega)).trans HEY.out)⟩
        case rest =>
          obtain ⟨sa4, sc4, r5, i5, k5, e5⟩ := hcut
          have hz5 := k5.size
          have hcp5 := HC2.out
          have u10 := cells_at e5 10 _ rfl
          have u11 := cells_at e5 11 _ rfl
          have u12 := cells_at e5 12 _ rfl
          have u13 := cells_at e5 13 _ rfl
          have u14 := cells_at e5 14 _ rfl
          have eW5 := (k5.block w1.heap.size (by omega) (by omega)).trans HEW.out
          have y5 := cells_at eW5 2 _ rfl
          have hl5 : (rs'.set k (x.1, .slice sa4 x.1.arg.items.length sc4, x.2.2)).length = rs.length := by rw [List.length_set]; exact hl
          have hB5 : Below B wr wc := k5.toBelow (by omega) (fun y h => by omega)
          have HC3 := hide (fun (U : World) (b : Below wc.heap.size wc U) => HC2.out U (hB5.trans (b.mono (by omega))) (by have := b.size; omega))
          have HCE5 := hide (fun (i : Nat) (v : Value) (h : (clOf x)[i]? = some v) (hi : 10 ≤ i) (U : World) (b : Below wc.heap.size wc U) => (show U.cell? ⟨gc, k * 15 + i, none⟩ = some v ∧ U.frozen? ⟨gc, k * 15 + i, none⟩ = false from by
            have hi15 : i < 15 := by
              have := (List.getElem?_eq_some_iff.1 h).1
              rwa [clOf_len] at this
            have hgw : gc < wc.heap.size := by omega
            refine ⟨((bcellV b).1 _ _ hgw).trans ?_, ((bcellV b).2 _ _ hgw).trans (r5.frozenAt _)⟩
            rw [r5.cellAt (k * 15 + i) (by have := Nat.mul_le_mul_right 15 (show k + 1 ≤ rs.length by omega); omega), crow_get _ k (by omega) i hi15]
            rw [List.getElem_set_self, ← h]
            have hc : i = 10 ∨ i = 11 ∨ i = 12 ∨ i = 13 ∨ i = 14 := by omega
            rcases hc with rfl | rfl | rfl | rfl | rfl <;> rfl))
          have HY5 := hide (fun (U : World) (b : Below wc.heap.size wc U) => (show U.cell? ⟨w1.heap.size, 2, none⟩ = some (.slice (some ⟨gc, 0, none⟩) rs.length c2) from ((bcellV b).1 _ _ (by omega)).trans y5))
          have HR5 := hide (And.intro r5 (And.intro i5 k5))
          clear r5 i5 k5 e5 eW5 hcp5 HC2 HFR HY2 yY2 t3 t4 t5 t6 t7
          go_wp2
          go_region_law
            ((go_simp; go_at_call 35; refine (HC3.out _ (by first | exact Below.refl _ _ | exact below_drewN _ 1 | exact below_drewN _ 2)).mono ?_; clear HC3; rintro r w6 ⟨s6, rfl, i6, b6'⟩; have b6 : Below wc.heap.size wc w6 := (by first | exact b6' | exact trans_v (below_drewN _ 1) b6' | exact trans_v (below_drewN _ 2) b6'); obtain ⟨sa6, sc6, rfl, _⟩ := i6.in.len; have I6 := hide i6; have yW6 := HY5.out w6 b6; obtain ⟨c10, z10⟩ := HCE5.out 10 _ rfl (by omega) w6 b6; obtain ⟨c11, z11⟩ := HCE5.out 11 _ rfl (by omega) w6 b6; obtain ⟨c12, z12⟩ := HCE5.out 12 _ rfl (by omega) w6 b6; obtain ⟨c13, z13⟩ := HCE5.out 13 _ rfl (by omega) w6 b6; obtain ⟨c14, z14⟩ := HCE5.out 14 _ rfl (by omega) w6 b6; have BB6 := hide b6; clear b6' b6 i6))
          all_goals
            go_wp2
            go_roundw
            case rel =>
              obtain ⟨r5, i5, k5⟩ := HR5.out
              have b6 := BB6.out
              have k6 := Keeps.below (M := fun _ => False) b6
              have row6 := k6.row r5 (fun _ _ h => h)
              obtain ⟨r7, k7⟩ := crow_put5 row6 k 10 (by omega) (by omega) x.1.reply (.slice sa6 x.1.reply.items.length sc6) (x.1, .slice sa4 x.1.arg.items.length sc4, .slice sa6 x.1.reply.items.length sc6) (by rw [List.getElem_set_self]; rfl)
              rw [List.set_set] at r7
              have hz6 := b6.size
              have kk : Keeps (fun y => y = gc) wr _ := (k5.trans (k6.mono (fun _ _ h => h.elim) (M' := fun y => y = gc)) (fun _ _ h => h)).trans k7 (fun _ _ h => h)
              refine ⟨k + 1, _, by omega, by go_num, HH.out.put hlt _ _ gl (by omega) (by omega) kk (by rw [hx]; exact r7) ?_ ?_, HKP.out.trans kk (fun _ _ h => h)⟩
              · rw [hx]
                exact i5.kept (fun b hb hb2 => (k7.block b (by omega) (by omega)).trans (b6.block b hb2)) (fun b hb => ⟨hb.1, Nat.lt_of_lt_of_le hb.2.1 (Nat.le_trans b6.size k7.size), hb.2.2⟩)
              · rw [hx]
                exact I6.out.kept (fun b hb hb2 => k7.block b hb2 (by have hb1 : wc.heap.size ≤ b := hb.1; omega)) (fun b hb => (by have hb1 : wc.heap.size ≤ b := hb.1; exact ⟨by omega, Nat.lt_of_lt_of_le hb.2 k7.size, by omega⟩))
            case measure => simp [intOf]; omega
      · have hke : k = rs.length := by omega
        have eW := (kp.block w1.heap.size (by omega) (by omega)).trans HEX.out
        have fW := (kp.block w.heap.size (by omega) (by omega)).trans HFX.out
        have y0 := cells_at eW 0 _ rfl
        have y1 := cells_at eW 1 _ rfl
        have y2 := cells_at eW 2 _ rfl
        have q0 := frozen_at fW 0
        have q1 := frozen_at fW 1
        have q2 := frozen_at fW 2
        have r0 := cells_at fW 0 _ rfl
        have r1 := cells_at fW 1 _ rfl
        have r2 := cells_at fW 2 _ rfl
        have HFW := hide fW
        have HH := hide hh
        have HKP := hide kp
        have hkz := kp.size
        clear eW fW hh kp hc0
        go_wp2
        have g1 := heap_setCell_same _ _ 0 _ _ (.slice a0 m0 c0) HFW.out
        have g2 := heap_setCell_same _ _ 1 _ _ (.slice a1 m1 c1) g1
        have g3 := heap_setCell_same _ _ 2 _ _ (.slice (some ⟨gc, 0, none⟩) rs.length c2) g2
        refine bodyPost_ret (results_struct_two rfl _ _ w.heap.size _ _ _ _ rfl g3 Tryz.underlying25 rfl infoPast) rfl ?_
        have kp2 := ((Keeps.set wr w.heap.size 0 (.slice a0 m0 c0)).trans (Keeps.set _ w.heap.size 1 (.slice a1 m1 c1)) (fun _ _ h => h)).trans (Keeps.set _ w.heap.size 2 (.slice (some ⟨gc, 0, none⟩) rs.length c2)) (fun _ _ h => h)
        have kq : Keeps (fun x => x = gc ∨ x = w.heap.size) w1 _ := ((Keeps.below (M := fun x => x = gc ∨ x = w.heap.size) bX).trans HKP.out (fun _ _ h => .inl h)).trans kp2 (fun _ _ h => .inr h)
        have hp := HP.out
        have hrow : ∀ {v : Value} {t : TypeId} {z m : Nat} {xs : List Value}, w1.ownsRow L t z v m xs → t ≠ 69 → ∀ y, v.ownBlock = some y → ¬ (y = gc ∨ y = w.heap.size) := fun hr ht y ey h => by
          rcases h with rfl | rfl
          · exact row_types hr hp.cl ht _ ey rfl
          · have := (hr.lt _ ey).1; omega
        have hl := HH.out.len
        refine ⟨⟨_, _, _, at', code, rfl, .inr ⟨H12.out.1, H12.out.2, h3, h4, rs', L, by omega, Nat.le_trans hL3 kq.size, kq.row hp.pr (hrow hp.pr (by decide)), kq.row hp.ob (hrow hp.ob (by decide)), ?_, HH.out.same.trans hp.same, fun x hx => ?_, fun x hx => ?_⟩⟩, ?_⟩
        · have := kp2.row HH.out.cl (fun y ey h => by have := (HH.out.cl.lt y ey).1; omega)
          rw [← HRL.out]
          exact this
        · obtain ⟨j, hj, rfl⟩ := List.getElem_of_mem hx
          have hnw := HH.out.new j hj (by omega)
          have hkk : ∀ b, (w.heap.size + 1 ≤ b ∧ b < wr.heap.size ∧ b ≠ gc) → b < wr.heap.size → (((wr.setCell ⟨w.heap.size, 0, none⟩ (.slice a0 m0 c0)).setCell ⟨w.heap.size, 1, none⟩ (.slice a1 m1 c1)).setCell ⟨w.heap.size, 2, none⟩ (.slice (some ⟨gc, 0, none⟩) rs.length c2)).heap[b]? = wr.heap[b]? := fun b hb hb2 => kp2.block b hb2 (by omega)
          have hss : ∀ b, (w.heap.size + 1 ≤ b ∧ b < wr.heap.size ∧ b ≠ gc) → (w.heap.size ≤ b ∧ b < (((wr.setCell ⟨w.heap.size, 0, none⟩ (.slice a0 m0 c0)).setCell ⟨w.heap.size, 1, none⟩ (.slice a1 m1 c1)).setCell ⟨w.heap.size, 2, none⟩ (.slice (some ⟨gc, 0, none⟩) rs.length c2)).heap.size ∧ some b ≠ (Value.slice (some ⟨gc, 0, none⟩) rs.length c2).ownBlock) := fun b hb => ⟨by omega, Nat.lt_of_lt_of_le hb.2.1 kp2.size, fun e => hb.2.2 (by simpa [Value.ownBlock] using e)⟩
          exact ⟨hnw.1.kept hkk hss, hnw.2.kept hkk hss⟩
        · have hm : x.1 ∈ rs.map (·.1) := by rw [← HH.out.same]; exact List.mem_map.2 ⟨x, hx, rfl⟩
          obtain ⟨y, hy, e⟩ := List.mem_map.1 hm
          have := (hp.its y hy).2.2
          rw [e] at this
          exact this
        · exact (trans_v bw1 bX).trans ((HKP.out.toBelow (by omega) (fun x h => by omega)).trans (kp2.toBelow (by omega) (fun x h => by omega)))
theorem make_forms {l : List Evn} {at' n h0 : Nat} {code : Int} {w' : World} {v0 v1 v2 : Value} (h : MakeR l n h0 w' v0 v1 v2 at' code) : (∃ a m c, v0 = .slice a m c) ∧ (∃ a m c, v1 = .slice a m c) ∧ (∃ a m c, v2 = .slice a m c) := by
  rcases h with ⟨_, h0, h1, h2⟩ | ⟨_, _, _, _, rs, L, _, _, hp⟩
  · exact ⟨⟨_, _, _, h0⟩, ⟨_, _, _, h1⟩, ⟨_, _, _, h2⟩⟩
  · obtain ⟨x0, y0, h0⟩ := rowLen hp.pr
    obtain ⟨x1, y1, h1⟩ := rowLen hp.ob
    obtain ⟨x2, y2, h2⟩ := rowLen hp.cl
    exact ⟨⟨_, _, _, h0⟩, ⟨_, _, _, h1⟩, ⟨_, _, _, h2⟩⟩
end Go.Proofs.YtnmkggoampkekaaGreatDoor
