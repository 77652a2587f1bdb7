/- The reference's Same, of any two. -/
import Derived.Test.YtnmkggoampkekaaGreatDoorZHSm4A
import Derived.Test.YtnmkggoampkekaaGreatDoorZHSm4B
import Derived.Test.YtnmkggoampkekaaGreatDoorZHSm4C
import Derived.Test.YtnmkggoampkekaaGreatDoorZHSm4D
import Derived.Test.YtnmkggoampkekaaGreatDoorZHSm4E
import Derived.Test.YtnmkggoampkekaaGreatDoorZHSm4F
import Derived.Test.YtnmkggoampkekaaGreatDoorZHSm4G
import Derived.Test.YtnmkggoampkekaaGreatDoorGHRfD
import Derived.Test.YtnmkggoampkekaaGreatDoorGHMkG
namespace Go.Proofs.YtnmkggoampkekaaGreatDoor
open Go.RowKit Go.Maps

/-- The first operation in which two rows differ. -/
theorem first_diff : ∀ (cs cs' : List HV), cs.length = cs'.length → cs.map (·.1) ≠ cs'.map (·.1) → ∃ k, ∃ (h : k < cs.length) (h' : k < cs'.length), (∀ j (a : j < cs.length) (b : j < cs'.length), j < k → cs[j].1 = cs'[j].1) ∧ cs[k].1 ≠ cs'[k].1
  | [], [], _, hn => absurd rfl hn
  | [], y :: t, hl, _ => by simp at hl
  | x :: s, [], hl, _ => by simp at hl
  | x :: s, y :: t, hl, hn => by
    by_cases e : x.1 = y.1
    · obtain ⟨k, h, h', h1, h2⟩ := first_diff s t (by simpa using hl) (fun e' => hn (by simp [e, e']))
      refine ⟨k + 1, by simpa using h, by simpa using h', fun j a b hj => ?_, by simpa using h2⟩
      cases j with
      | zero => exact e
      | succ j => simpa using h1 j (by simpa using a) (by simpa using b) (by omega)
    · exact ⟨0, by simp, by simp, fun j _ _ hj => by omega, e⟩
theorem sameP_k (w : World) (n m : Nat) (v0 v1 v2 u0 u1 u2 : Value) (P O P' O' : List (List UInt8)) (cs cs' : List HV) (h : HPast w w.heap.size n v0 v1 v2 P O cs) (h' : HPast w w.heap.size m u0 u1 u2 P' O' cs') :
    Calls Tryz.prog 40 #[.agg #[v0, v1, v2], .agg #[u0, u1, u2]] w fun e w' => (∃ b : Bool, e = .returned (.bool b) ∧ (b = true ↔ SameP P O P' O' cs cs')) ∧ Below w.heap.size w w' := by
  have no : ∀ (hn : ¬ SameP P O P' O' cs cs') (e : Ending) (w' : World), e = .returned (.bool false) ∧ Below w.heap.size w w' → (∃ b : Bool, e = .returned (.bool b) ∧ (b = true ↔ SameP P O P' O' cs cs')) ∧ Below w.heap.size w w' := fun hn e w' he => ⟨⟨false, he.1, by simp [hn]⟩, he.2⟩
  by_cases hP : P = P'
  rotate_left
  · exact (sameP_n0 w n m v0 v1 v2 u0 u1 u2 P O P' O' cs cs' h h' hP).mono (no (fun hs => hP hs.1))
  subst hP
  by_cases hO : O = O'
  rotate_left
  · exact (sameP_n1 w n m v0 v1 v2 u0 u1 u2 P O O' cs cs' h h' hO).mono (no (fun hs => hO hs.2.1))
  subst hO
  by_cases hl : cs.length = cs'.length
  rotate_left
  · exact (sameP_n2 w n m v0 v1 v2 u0 u1 u2 P O cs cs' h h' hl).mono (no (fun hs => hl (by have := congrArg List.length hs.2.2; simpa using this)))
  by_cases hc : cs.map (·.1) = cs'.map (·.1)
  · exact (sameP_yes w n m v0 v1 v2 u0 u1 u2 P O cs cs' h h' hc).mono (fun e w' he => ⟨⟨true, he.1, by simp [SameP, hc]⟩, he.2⟩)
  have hn : ¬ SameP P O P O cs cs' := fun hs => hc hs.2.2
  obtain ⟨k, hk, hk', hpre, hne⟩ := first_diff cs cs' hl hc
  rcases ch_first cs[k].1 cs'[k].1 with e | e | e | e | e | e | e | e
  · exact absurd e hne
  · exact (sameP_d0 w n m v0 v1 v2 u0 u1 u2 P O cs cs' h h' k hk hk' hl hpre e).mono (no hn)
  · exact (sameP_d1 w n m v0 v1 v2 u0 u1 u2 P O cs cs' h h' k hk hk' hl hpre e).mono (no hn)
  · exact (sameP_d2 w n m v0 v1 v2 u0 u1 u2 P O cs cs' h h' k hk hk' hl hpre e).mono (no hn)
  · exact (sameP_d3 w n m v0 v1 v2 u0 u1 u2 P O cs cs' h h' k hk hk' hl hpre e).mono (no hn)
  · exact (sameP_d4 w n m v0 v1 v2 u0 u1 u2 P O cs cs' h h' k hk hk' hl hpre e).mono (no hn)
  · exact (sameP_d5 w n m v0 v1 v2 u0 u1 u2 P O cs cs' h h' k hk hk' hl hpre e).mono (no hn)
  · exact (sameP_d6 w n m v0 v1 v2 u0 u1 u2 P O cs cs' h h' k hk hk' hl hpre e).mono (no hn)
end Go.Proofs.YtnmkggoampkekaaGreatDoor

/- The reference's Events. -/
namespace Go.Proofs.YtnmkggoampkekaaGreatDoor
open Go.RowKit Go.Maps

/-- What the reference's Events answers. -/
def REvR (P O : List (List UInt8)) (cs : List HV) (n : Nat) (w' : World) (v : Value) (code : Int) : Prop :=
  (code = 0 ∧ ∃ E, laidR P O cs cs.length = some E ∧ MadeBy P O cs E ∧ EvsAt w' w'.heap.size n v E) ∨ (code = 2 ∧ v = .slice none 0 0 ∧ ∀ E, laidR P O cs cs.length = some E → ¬ MadeBy P O cs E)
theorem laidR_none {P O : List (List UInt8)} {cs : List HV} {k : Nat} (h : laidR P O cs k = none) : ∀ m, k ≤ m → laidR P O cs m = none
  | 0, hm => by
    obtain rfl : k = 0 := by omega
    exact h
  | m + 1, hm => by
    by_cases e : k = m + 1
    · subst e; exact h
    · rw [laidR, laidR_none h m (by omega)]
theorem REvR.no {P O : List (List UInt8)} {cs : List HV} {n k : Nat} {w' : World} (h : laidR P O cs (k + 1) = none) (hk : k < cs.length) : REvR P O cs n w' (.slice none 0 0) 2 := .inr ⟨rfl, rfl, fun E e => by
  rw [laidR_none h cs.length (by omega)] at e
  cases e⟩
theorem stepR_bad {P O : List (List UInt8)} {E : List Evn} {c : Ch} (h : okC P.length O.length E.length c = false) : stepR P O E c = none := by
  unfold stepR
  rw [if_neg (by rw [h]; simp)]
theorem stepR_busy {P O : List (List UInt8)} {E : List Evn} {c : Ch} (h : freeAt E c.inv.toNat = false) : stepR P O E c = none := by
  unfold stepR
  rw [if_neg (by rw [h]; simp)]
theorem stepR_busy2 {P O : List (List UInt8)} {E : List Evn} {c : Ch} (hr : ¬ c.res < 0) (h : freeAt (E.set c.inv.toNat (invEv P O c)) c.res.toNat = false) : stepR P O E c = none := by
  unfold stepR
  by_cases hc : okC P.length O.length E.length c = true ∧ freeAt E c.inv.toNat = true
  · rw [if_pos hc, if_neg hr, if_neg (by rw [h]; simp)]
  · rw [if_neg hc]
theorem stepR_inv {P O : List (List UInt8)} {E : List Evn} {c : Ch} (hok : okC P.length O.length E.length c = true) (hf : freeAt E c.inv.toNat = true) (hr : c.res < 0) : stepR P O E c = some (E.set c.inv.toNat (invEv P O c)) := by
  unfold stepR
  rw [if_pos ⟨hok, hf⟩, if_pos hr]
theorem stepR_both {P O : List (List UInt8)} {E : List Evn} {c : Ch} (hok : okC P.length O.length E.length c = true) (hf : freeAt E c.inv.toNat = true) (hr : ¬ c.res < 0) (h : freeAt (E.set c.inv.toNat (invEv P O c)) c.res.toNat = true) : stepR P O E c = some ((E.set c.inv.toNat (invEv P O c)).set c.res.toNat (resEv P c)) := by
  unfold stepR
  rw [if_pos ⟨hok, hf⟩, if_neg hr, if_pos h]
theorem getD_at {P : List (List UInt8)} {i : Nat} (h : i < P.length) : P.getD i [] = P[i] := by
  rw [List.getD_eq_getElem?_getD, List.getElem?_eq_getElem h]
  rfl
theorem CeAt.put {w W : World} {h0 n g q : Nat} {I J : Nat → Prop} {E : List EV} (h : CeAt w h0 n I (.slice (some ⟨g, 0, none⟩) q q) E) (hq : E.length = q) (k : Nat) (_hk : k < E.length) (x : EV)
    (hr : W.ownsRow h0 61 12 (.slice (some ⟨g, 0, none⟩) q q) q (erow (E.set k x))) (kp : Keeps (fun y => y = g) w W)
    (hx : ItemsIn w J n x.2 x.1.val.items) (ho : EvOk x.1) (hz : x.1.val.size ≤ 1000000000) (hJ : ∀ b, J b → b < w.heap.size ∧ b ≠ g) : CeAt W h0 n (fun b => I b ∨ J b) (.slice (some ⟨g, 0, none⟩) q q) (E.set k x) := by
  have hI : ∀ b, I b → b < w.heap.size ∧ b ≠ g := fun b hb => ⟨(h.no b hb).1, fun e => (h.no b hb).2 (by subst e; rfl)⟩
  have hk' : ∀ b o, (b < w.heap.size ∧ b ≠ g) → W.cell? ⟨b, o, none⟩ = w.cell? ⟨b, o, none⟩ := fun b o hS => cell_block (kp.block b hS.1 hS.2) o
  refine ⟨by rw [List.length_set, hq]; exact hr, fun y hy => ?_, fun b hb => ?_⟩
  · rcases List.mem_or_eq_of_mem_set hy with hy | rfl
    · exact ⟨(h.its y hy).1.kept (fun b o hb => hk' b o (hI b hb)) (fun _ hb => .inl hb), (h.its y hy).2⟩
    · exact ⟨hx.kept (fun b o hb => hk' b o (hJ b hb)) (fun _ hb => .inr hb), ho, hz⟩
  · have h1 := hb.elim (hI b) (hJ b)
    exact ⟨Nat.lt_of_lt_of_le h1.1 kp.size, fun e => h1.2 (Option.some.inj e).symm⟩
/-- What the two regions of Events read. -/
structure SEv (V : World) (b g : Nat) (x : HV) (s0 s1 s2 : Value) (bp op : Nat) (sp : List UInt8) (bo oo : Nat) (so : List UInt8) : Prop where
  eb : V.heap[b]? = some (.cells (hvArr x) 69 (0, 0))
  eg : V.heap[g]? = some (.cells #[s0, s1, s2] 25 (0, 0))
  np : V.cell? ⟨bp, op, none⟩ = some (.string (bsN sp))
  no : V.cell? ⟨bo, oo, none⟩ = some (.string (bsN so))
set_option maxRecDepth 100000 in
set_option maxHeartbeats 8000000 in
theorem refEvents_k (w : World) (n : Nat) (v0 v1 v2 : Value) (P O : List (List UInt8)) (cs : List HV) (h : HPast w w.heap.size (n + 1) v0 v1 v2 P O cs) (hcs : cs.length ≤ 100000000) :
    Calls Tryz.prog 26 #[.agg #[v0, v1, v2]] w fun e w' => (∃ v code, e = .returned (.tuple #[v, .int .i64 code]) ∧ REvR P O cs (n + 1) w' v code) ∧ Below w.heap.size w w' := by
  obtain ⟨qn, hq⟩ : ∃ q, placesR cs = q := ⟨_, rfl⟩
  have hqe := placesR_eq cs
  have hql := cntR_le cs cs.length
  have hqb : qn ≤ 200000000 := by omega
  obtain ⟨a0, c0, rfl, hl0⟩ := h.pr.len
  obtain ⟨a1, c1, rfl, hl1⟩ := h.ob.len
  obtain ⟨a2, c2, rfl, hl2⟩ := h.cl.len
  obtain ⟨W, hW⟩ : ∃ W, w.alloc (.cells #[.slice a0 P.length c0, .slice a1 O.length c1, .slice a2 cs.length c2] 25) = W := ⟨_, rfl⟩
  have bW : Below w.heap.size w W := by rw [← hW]; exact alloc_v (Below.refl _ _) _
  have e1 : W.heap[w.heap.size]? = some (.cells #[.slice a0 P.length c0, .slice a1 O.length c1, .slice a2 cs.length c2] 25 (0, 0)) := by rw [← hW]; exact World.alloc_heap_new w _
  have zW : W.heap.size = w.heap.size + 1 := by rw [← hW]; simp
  have hmk := makeEv qn (by omega)
  have HH := hide h
  have HE := hide e1
  have y2 := cells_at e1 2 _ rfl
  have HQ := hide (hq.symm.trans hqe)
  have HQ0 := hide hq
  have HZW := hide zW
  clear h e1 hq zW hqe hql
  go_enter Tryz.func26, Tryz.ntmps26
  go_wp2
  clear hW
  go_loopw [4, 5] (fun nn i wr => ∃ k : Nat, k ≤ cs.length ∧ i = .int .i64 k ∧ nn = .int .i64 ((cs.length + cntR cs k : Nat) : Int) ∧ W = wr) (fun _ i _ => cs.length - (intOf i).toNat)
  case atStart => exact ⟨0, Nat.zero_le _, rfl, by simp [cntR], rfl⟩
  case round =>
    obtain ⟨k, hk, rfl, rfl, rfl⟩ := hrel
    by_cases hlt : k < cs.length
    · obtain ⟨b3, o3, rfl, g3, p0, p1, p2, p3, p4, p5, p6, p7, p8, p9, p10, p11, p12, p13, p14⟩ := (HH.out.cl.below bW).item k hlt
      have hs := cntR_succ cs k hlt
      have hle := cntR_le cs k
      have l3 : b3 < W.heap.size := by have := bW.size; omega
      clear p0 p1 p2 p3 p4 p5 p6 p7 p8 p10 p11 p12 p13 p14
      by_cases hr : 0 ≤ cs[k].1.res
      · rw [if_pos hr] at hs
        have HS := hide hs
        clear hs
        generalize cs[k].1.res = rr at *
        generalize hcc : cntR cs k = cc at *
        go_wp2
        go_roundw
        case rel => exact ⟨k + 1, by omega, by go_num, by rw [HS.out]; go_num, by first | rfl | trivial⟩
        case measure => simp [intOf]; omega
      · rw [if_neg hr] at hs
        have HS := hide hs
        clear hs
        generalize cs[k].1.res = rr at *
        generalize hcc : cntR cs k = cc at *
        go_wp2
        go_roundw
        case rel => exact ⟨k + 1, by omega, by go_num, by rw [HS.out]; go_num, by first | rfl | trivial⟩
        case measure => simp [intOf]; omega
    · have hkl : k = cs.length := by omega
      subst hkl
      rw [← HQ.out]
      go_wp2
      clear hmk y2
      obtain ⟨X, hX⟩ : ∃ X, W.alloc (.cells (madeE qn) 61) = X := ⟨_, rfl⟩
      have bX : Below W.heap.size W X := by rw [← hX]; exact alloc_v (Below.refl _ _) _
      have rX : X.ownsRow w.heap.size 61 12 (.slice (some ⟨W.heap.size, 0, none⟩) qn qn) qn (erow (List.replicate qn zeroEV)) := by
        rw [← hX, ← erow_zero]
        exact World.ownsRow_lit W (madeE qn) qn (by have := HZW.out; omega) (by unfold maxLen; omega) (size_madeCells _ _)
      have eX : X.heap[w.heap.size]? = some (.cells #[.slice a0 P.length c0, .slice a1 O.length c1, .slice a2 cs.length c2] 25 (0, 0)) := (bX.block w.heap.size (by have := HZW.out; omega)).trans HE.out
      have hC0 : CeAt X w.heap.size (n + 1) (fun _ => False) (.slice (some ⟨W.heap.size, 0, none⟩) qn qn) (List.replicate qn zeroEV) := ⟨by rw [List.length_replicate]; exact rX, fun x hx => by
          rw [(List.mem_replicate.1 hx).2]
          exact ⟨⟨none, 0, rfl, by simp [zeroEV, zeroE, zeroVl], fun j hj => by simp [zeroEV, zeroE, zeroVl] at hj⟩, ⟨by simp [zeroEV, zeroE], by simp [zeroEV, zeroE], by simp [zeroEV, zeroE], ⟨by decide, by decide, by decide⟩⟩, by simp [zeroEV, zeroE, zeroVl, Vl.size_eq]⟩, fun _ h => h.elim⟩
      have HC0 := hide hC0
      have BWX := hide (trans_v bW bX)
      have EX := hide eX
      rw [hX]
      clear hX rX eX hC0 bX
      go_loopw [7] (fun i wr => ∃ (k : Nat) (I : Nat → Prop) (E : List EV), k ≤ cs.length ∧ i = .int .i64 k ∧ laidR P O cs k = some (E.map (·.1)) ∧ E.length = qn ∧ CeAt wr w.heap.size (n + 1) I (.slice (some ⟨W.heap.size, 0, none⟩) qn qn) E ∧ wr.heap[w.heap.size]? = some (.cells #[.slice a0 P.length c0, .slice a1 O.length c1, .slice a2 cs.length c2] 25 (0, 0)) ∧ Below w.heap.size w wr) (fun i _ => cs.length - (intOf i).toNat)
      case atStart => exact ⟨0, _, _, Nat.zero_le _, rfl, by rw [laidR, HQ0.out]; simp [zeroEV], List.length_replicate, HC0.out, EX.out, BWX.out⟩
      case round =>
        obtain ⟨k, I, E, hk, rfl, hlR, hEl, hC, hp, hb⟩ := hrel
        have x2 := cells_at hp 2 _ rfl
        by_cases hlt : k < cs.length
        · obtain ⟨b3, o3, rfl, g3, p0, p1, p2, p3, p4, p5, p6, p7, p8, p9, p10, p11, p12, p13, p14⟩ := (HH.out.cl.below hb).item k hlt
          have hit := HH.out.its cs[k] (List.getElem_mem hlt)
          have hstep : laidR P O cs (k + 1) = stepR P O (E.map (·.1)) cs[k].1 := by rw [laidR, hlR]; simp [hlt]
          generalize cs[k] = x at *
          obtain ⟨⟨xp, xo, xop, xg, xi, xr, xy⟩, sa, sr⟩ := x
          dsimp only at *
          obtain ⟨sa1, sc1, es1, _⟩ := hit.1.len
          obtain ⟨sr1, sr2, es2, _⟩ := hit.2.1.len
          dsimp only at es1 es2
          subst es1 es2
          obtain ⟨U, hU⟩ : ∃ U, wr.alloc (.cells (hvArr (⟨xp, xo, xop, xg, xi, xr, xy⟩, .slice sa1 xg.items.length sc1, .slice sr1 xy.items.length sr2)) 69) = U := ⟨_, rfl⟩
          have bU : Below wr.heap.size wr U := by rw [← hU]; exact alloc_v (Below.refl _ _) _
          have eU : U.heap[wr.heap.size]? = some (.cells (hvArr (⟨xp, xo, xop, xg, xi, xr, xy⟩, .slice sa1 xg.items.length sc1, .slice sr1 xy.items.length sr2)) 69 (0, 0)) := by rw [← hU]; exact World.alloc_heap_new wr _
          have zU : U.heap.size = wr.heap.size + 1 := by rw [← hU]; simp
          have pU := (bU.block w.heap.size (Array.getElem?_eq_some_iff.1 hp).1).trans hp
          have s0 := cells_at eU 0 _ rfl
          have s1 := cells_at eU 1 _ rfl
          have s4 := cells_at eU 8 _ rfl
          have s5 := cells_at eU 9 _ rfl
          have q0 := cells_at pU 0 _ rfl
          have q1 := cells_at pU 1 _ rfl
          have HBU := hide (hb.trans (bU.mono hb.size))
          have HC := hide hC
          have HPU := hide pU
          have HEU := hide eU
          have HIT := hide hit
          have hml : (E.map (·.1)).length = qn := by rw [List.length_map]; exact hEl
          have HST := hide (fun (hok : okC P.length O.length qn ⟨xp, xo, xop, xg, xi, xr, xy⟩ = false) => hstep.trans (stepR_bad (by rw [hml]; exact hok)))
          have HSTEP := hide hstep
          have HEL := hide hEl
          have l3 : b3 < wr.heap.size := by have := hb.size; omega
          have k0 : (0 : Int) ≤ (k : Int) := by omega
          have k1 : (k : Int) < (cs.length : Int) := by omega
          have HB := hide hb
          have HBU2 := hide bU
          have HZU := hide zU
          clear hC hp hb bU eU zU pU hit hstep hlR hEl hml g3
          by_cases q1c : xp < 0
          · have HNO := hide (fun w' : World => REvR.no (n := n + 1) (w' := w') (HST.out (show okC P.length O.length qn ⟨xp, xo, xop, xg, xi, xr, xy⟩ = false by unfold okC; simp only [decide_eq_false_iff_not]; omega)) hlt)
            clear HST
            go_upto_if 90 with (fail)
            go_wp2
            go_ret2
            exact ⟨⟨_, _, rfl, HNO.out _⟩, HBU.out⟩
          by_cases q2c : (P.length : Int) ≤ xp
          · have HNO := hide (fun w' : World => REvR.no (n := n + 1) (w' := w') (HST.out (show okC P.length O.length qn ⟨xp, xo, xop, xg, xi, xr, xy⟩ = false by unfold okC; simp only [decide_eq_false_iff_not]; omega)) hlt)
            clear HST
            go_upto_if 90 with (fail)
            go_wp2
            go_ret2
            exact ⟨⟨_, _, rfl, HNO.out _⟩, HBU.out⟩
          by_cases q3c : xo < 0
          · have HNO := hide (fun w' : World => REvR.no (n := n + 1) (w' := w') (HST.out (show okC P.length O.length qn ⟨xp, xo, xop, xg, xi, xr, xy⟩ = false by unfold okC; simp only [decide_eq_false_iff_not]; omega)) hlt)
            clear HST
            go_upto_if 90 with (fail)
            go_wp2
            go_ret2
            exact ⟨⟨_, _, rfl, HNO.out _⟩, HBU.out⟩
          by_cases q4c : (O.length : Int) ≤ xo
          · have HNO := hide (fun w' : World => REvR.no (n := n + 1) (w' := w') (HST.out (show okC P.length O.length qn ⟨xp, xo, xop, xg, xi, xr, xy⟩ = false by unfold okC; simp only [decide_eq_false_iff_not]; omega)) hlt)
            clear HST
            go_upto_if 90 with (fail)
            go_wp2
            go_ret2
            exact ⟨⟨_, _, rfl, HNO.out _⟩, HBU.out⟩
          by_cases q5c : xi < 0
          · have HNO := hide (fun w' : World => REvR.no (n := n + 1) (w' := w') (HST.out (show okC P.length O.length qn ⟨xp, xo, xop, xg, xi, xr, xy⟩ = false by unfold okC; simp only [decide_eq_false_iff_not]; omega)) hlt)
            clear HST
            go_upto_if 90 with (fail)
            go_wp2
            go_ret2
            exact ⟨⟨_, _, rfl, HNO.out _⟩, HBU.out⟩
          by_cases q6c : (qn : Int) ≤ xi
          · have HNO := hide (fun w' : World => REvR.no (n := n + 1) (w' := w') (HST.out (show okC P.length O.length qn ⟨xp, xo, xop, xg, xi, xr, xy⟩ = false by unfold okC; simp only [decide_eq_false_iff_not]; omega)) hlt)
            clear HST
            go_upto_if 90 with (fail)
            go_wp2
            go_ret2
            exact ⟨⟨_, _, rfl, HNO.out _⟩, HBU.out⟩
          by_cases q7c : xr < -1
          · have HNO := hide (fun w' : World => REvR.no (n := n + 1) (w' := w') (HST.out (show okC P.length O.length qn ⟨xp, xo, xop, xg, xi, xr, xy⟩ = false by unfold okC; simp only [decide_eq_false_iff_not]; omega)) hlt)
            clear HST
            go_upto_if 90 with (fail)
            go_wp2
            go_ret2
            exact ⟨⟨_, _, rfl, HNO.out _⟩, HBU.out⟩
          by_cases q8c : (qn : Int) ≤ xr
          · have HNO := hide (fun w' : World => REvR.no (n := n + 1) (w' := w') (HST.out (show okC P.length O.length qn ⟨xp, xo, xop, xg, xi, xr, xy⟩ = false by unfold okC; simp only [decide_eq_false_iff_not]; omega)) hlt)
            clear HST
            go_upto_if 90 with (fail)
            go_wp2
            go_ret2
            exact ⟨⟨_, _, rfl, HNO.out _⟩, HBU.out⟩
          obtain ⟨ip, rfl⟩ : ∃ i : Nat, xp = (i : Int) := ⟨xp.toNat, by omega⟩
          obtain ⟨io, rfl⟩ : ∃ i : Nat, xo = (i : Int) := ⟨xo.toNat, by omega⟩
          obtain ⟨ii, rfl⟩ : ∃ i : Nat, xi = (i : Int) := ⟨xi.toNat, by omega⟩
          have hip : ip < P.length := by omega
          have hio : io < O.length := by omega
          have hii : ii < qn := by omega
          have hiE : ii < E.length := by have := HEL.out; omega
          have hok : okC P.length O.length (E.map (·.1)).length ⟨ip, io, xop, xg, ii, xr, xy⟩ = true := by
            unfold okC
            rw [List.length_map, HEL.out]
            simp only [decide_eq_true_eq]
            omega
          have HOK := hide hok
          have ceU := HC.out.below HBU2.out
          have hkc : U.cell? ⟨W.heap.size, ii * 12, none⟩ = some (.int .i64 E[ii].1.kind) := by
            have hr0 := ceU.row
            rw [HEL.out] at hr0
            have h0 := hr0.cellAt (ii * 12) (show ii * 12 < qn * 12 by omega)
            have h1 := erow_get E ii hiE 0 (by omega)
            rw [Nat.add_zero] at h1
            exact h0.trans h1
          have HCU := hide ceU
          have i0 : (0 : Int) ≤ (ii : Int) := by omega
          have i1 : (ii : Int) < (qn : Int) := by omega
          clear hok ceU HST
          by_cases hfk : E[ii].1.kind = 0
          rotate_left
          · have HNO := hide (fun w' : World => REvR.no (n := n + 1) (w' := w') (k := k) (HSTEP.out.trans (stepR_busy (E := E.map (·.1)) (c := ⟨ip, io, xop, xg, ii, xr, xy⟩) (by rw [show (⟨ip, io, xop, xg, ii, xr, xy⟩ : Ch).inv.toNat = ii from Int.toNat_natCast _]; unfold freeAt; simp [hiE, hfk]))) hlt)
            have hfb : (E[ii].1.kind != 0) = true := by simpa using hfk
            generalize E[ii].1.kind = kd at *
            go_wp2
            go_ret2
            exact ⟨⟨_, _, rfl, HNO.out _⟩, HBU.out⟩
          have HFK := hide hfk
          rw [hfk] at hkc
          clear hfk
          obtain ⟨bp, op0, ea0, lp, cp⟩ := (HH.out.pr.below HBU.out).item ip hip
          obtain ⟨bo, oo0, ea1, lo, co⟩ := (HH.out.ob.below HBU.out).item io hio
          subst ea0 ea1
          have hzb := HB.out.size
          have lg : w.heap.size ≤ W.heap.size ∧ W.heap.size < wr.heap.size := HC.out.row.lt _ rfl
          have lgp : w.heap.size < wr.heap.size := by omega
          have lgs : w.heap.size < W.heap.size := by have := HZW.out; omega
          go_upto_region 16 with (fail)
          have HSS := hide (fun (V : World) (hV : Below U.heap.size U V) => (⟨(hV.block _ (by have := HZU.out; omega)).trans HEU.out, (hV.block _ (by have := HZU.out; omega)).trans HPU.out, (hV.cell (p := ⟨bp, op0 + ip, none⟩) (by have := HZU.out; simp only; omega)).trans cp, (hV.cell (p := ⟨bo, oo0 + io, none⟩) (by have := HZU.out; simp only; omega)).trans co⟩ : SEv V wr.heap.size w.heap.size (⟨ip, io, xop, xg, ii, xr, xy⟩, .slice sa1 xg.items.length sc1, .slice sr1 xy.items.length sr2) (.slice (some ⟨bp, op0, none⟩) P.length c0) (.slice (some ⟨bo, oo0, none⟩) O.length c1) (.slice (some ⟨b3, o3, none⟩) cs.length c2) bp (op0 + ip) P[ip] bo (oo0 + io) O[io]))
          clear cp co s0 s1 s4 s5 q0 q1 x2 p0 p1 p2 p3 p4 p5 p6 p7 p8 p9 p10 p11 p12 p13 p14 hkc
          have j0 : (0 : Int) ≤ (ip : Int) := by omega
          have j1 : (ip : Int) < (P.length : Int) := by omega
          have j2 : (0 : Int) ≤ (io : Int) := by omega
          have j3 : (io : Int) < (O.length : Int) := by omega
          have HCP := hide (fun (V : World) (hV : Below U.heap.size U V) => refCopy_k xg V (n + 1) (.slice sa1 xg.items.length sc1) HIT.out.2.2.2.2.1 ((HIT.out.1.below (HBU.out.trans (hV.mono HBU.out.size))).up (Nat.le_trans HBU.out.size hV.size)))
          refine wp_region_E 22 23 (fun V => SEv V wr.heap.size w.heap.size (⟨ip, io, xop, xg, ii, xr, xy⟩, .slice sa1 xg.items.length sc1, .slice sr1 xy.items.length sr2) (.slice (some ⟨bp, op0, none⟩) P.length c0) (.slice (some ⟨bo, oo0, none⟩) O.length c1) (.slice (some ⟨b3, o3, none⟩) cs.length c2) bp (op0 + ip) P[ip] bo (oo0 + io) O[io]) (by kernel_rfl) (by kernel_rfl) (by kernel_rfl) (by kernel_rfl) (by decide) (by kernel_rfl) ?_
          intro hsk inv
          have HS0 := hide (HSS.out U.drew (drewB 1 U))
          refine wpAnyE_take (i := 0) (v := ?v0) hsk inv (by decide) rfl (by kernel_rfl) (by kernel_rfl) (fun _ _ _ h => h) (Or.inl ⟨by rfl, ?hy0⟩) HS0.out ?rest0
          case hy0 => intro V hV; have d0 := cells_at hV.eb 0 _ rfl; have d1 := cells_at hV.eb 1 _ rfl; have d2 := cells_at hV.eb 2 _ rfl; have d3 := cells_at hV.eb 3 _ rfl; have d4 := cells_at hV.eb 4 _ rfl; have d5 := cells_at hV.eb 5 _ rfl; have d6 := cells_at hV.eb 6 _ rfl; have d7 := cells_at hV.eb 7 _ rfl; have d8 := cells_at hV.eb 8 _ rfl; have d9 := cells_at hV.eb 9 _ rfl; have d10 := cells_at hV.eb 10 _ rfl; have d11 := cells_at hV.eb 11 _ rfl; have d12 := cells_at hV.eb 12 _ rfl; have d13 := cells_at hV.eb 13 _ rfl; have d14 := cells_at hV.eb 14 _ rfl; have e0 := cells_at hV.eg 0 _ rfl; have e1 := cells_at hV.eg 1 _ rfl; have np := hV.np; have no := hV.no; go_simp; (try with_reducible rfl)
          case rest0 =>
          clear inv
          intro inv
          (try simp only [Act.put, List.setIfInBounds_toArray])
          refine wpAnyE_take (i := 1) (v := ?v1) hsk inv (by decide) rfl (by kernel_rfl) (by kernel_rfl) (fun _ _ _ h => h) (Or.inl ⟨by rfl, ?hy1⟩) HS0.out ?rest1
          case hy1 => intro V hV; have d0 := cells_at hV.eb 0 _ rfl; have d1 := cells_at hV.eb 1 _ rfl; have d2 := cells_at hV.eb 2 _ rfl; have d3 := cells_at hV.eb 3 _ rfl; have d4 := cells_at hV.eb 4 _ rfl; have d5 := cells_at hV.eb 5 _ rfl; have d6 := cells_at hV.eb 6 _ rfl; have d7 := cells_at hV.eb 7 _ rfl; have d8 := cells_at hV.eb 8 _ rfl; have d9 := cells_at hV.eb 9 _ rfl; have d10 := cells_at hV.eb 10 _ rfl; have d11 := cells_at hV.eb 11 _ rfl; have d12 := cells_at hV.eb 12 _ rfl; have d13 := cells_at hV.eb 13 _ rfl; have d14 := cells_at hV.eb 14 _ rfl; have e0 := cells_at hV.eg 0 _ rfl; have e1 := cells_at hV.eg 1 _ rfl; have np := hV.np; have no := hV.no; go_simp; (try with_reducible rfl)
          case rest1 =>
          clear inv
          intro inv
          (try simp only [Act.put])
          refine wpAnyE_take (i := 2) (v := ?v2) hsk inv (by decide) rfl (by kernel_rfl) (by kernel_rfl) (fun _ _ _ h => h) (Or.inl ⟨by rfl, ?hy2⟩) HS0.out ?rest2
          case hy2 => intro V hV; have d0 := cells_at hV.eb 0 _ rfl; have d1 := cells_at hV.eb 1 _ rfl; have d2 := cells_at hV.eb 2 _ rfl; have d3 := cells_at hV.eb 3 _ rfl; have d4 := cells_at hV.eb 4 _ rfl; have d5 := cells_at hV.eb 5 _ rfl; have d6 := cells_at hV.eb 6 _ rfl; have d7 := cells_at hV.eb 7 _ rfl; have d8 := cells_at hV.eb 8 _ rfl; have d9 := cells_at hV.eb 9 _ rfl; have d10 := cells_at hV.eb 10 _ rfl; have d11 := cells_at hV.eb 11 _ rfl; have d12 := cells_at hV.eb 12 _ rfl; have d13 := cells_at hV.eb 13 _ rfl; have d14 := cells_at hV.eb 14 _ rfl; have e0 := cells_at hV.eg 0 _ rfl; have e1 := cells_at hV.eg 1 _ rfl; have np := hV.np; have no := hV.no; go_simp; (try with_reducible rfl)
          case rest2 =>
          clear inv
          intro inv
          (try simp only [Act.put])
          refine wpAnyE_take (i := 3) (v := ?v3) hsk inv (by decide) rfl (by kernel_rfl) (by kernel_rfl) (fun _ _ _ h => h) (Or.inl ⟨by rfl, ?hy3⟩) HS0.out ?rest3
          case hy3 => intro V hV; have d0 := cells_at hV.eb 0 _ rfl; have d1 := cells_at hV.eb 1 _ rfl; have d2 := cells_at hV.eb 2 _ rfl; have d3 := cells_at hV.eb 3 _ rfl; have d4 := cells_at hV.eb 4 _ rfl; have d5 := cells_at hV.eb 5 _ rfl; have d6 := cells_at hV.eb 6 _ rfl; have d7 := cells_at hV.eb 7 _ rfl; have d8 := cells_at hV.eb 8 _ rfl; have d9 := cells_at hV.eb 9 _ rfl; have d10 := cells_at hV.eb 10 _ rfl; have d11 := cells_at hV.eb 11 _ rfl; have d12 := cells_at hV.eb 12 _ rfl; have d13 := cells_at hV.eb 13 _ rfl; have d14 := cells_at hV.eb 14 _ rfl; have e0 := cells_at hV.eg 0 _ rfl; have e1 := cells_at hV.eg 1 _ rfl; have np := hV.np; have no := hV.no; go_simp; (try with_reducible rfl)
          case rest3 =>
          clear inv
          intro inv
          (try simp only [Act.put])
          refine wpAnyE_take (i := 4) (v := ?v4) hsk inv (by decide) rfl (by kernel_rfl) (by kernel_rfl) (fun _ _ _ h => h) (Or.inl ⟨by rfl, ?hy4⟩) HS0.out ?rest4
          case hy4 => intro V hV; have d0 := cells_at hV.eb 0 _ rfl; have d1 := cells_at hV.eb 1 _ rfl; have d2 := cells_at hV.eb 2 _ rfl; have d3 := cells_at hV.eb 3 _ rfl; have d4 := cells_at hV.eb 4 _ rfl; have d5 := cells_at hV.eb 5 _ rfl; have d6 := cells_at hV.eb 6 _ rfl; have d7 := cells_at hV.eb 7 _ rfl; have d8 := cells_at hV.eb 8 _ rfl; have d9 := cells_at hV.eb 9 _ rfl; have d10 := cells_at hV.eb 10 _ rfl; have d11 := cells_at hV.eb 11 _ rfl; have d12 := cells_at hV.eb 12 _ rfl; have d13 := cells_at hV.eb 13 _ rfl; have d14 := cells_at hV.eb 14 _ rfl; have e0 := cells_at hV.eg 0 _ rfl; have e1 := cells_at hV.eg 1 _ rfl; have np := hV.np; have no := hV.no; go_simp; (try with_reducible rfl)
          case rest4 =>
          clear inv
          intro inv
          (try simp only [Act.put])
          refine wpAnyE_take (i := 5) (v := ?v5) hsk inv (by decide) rfl (by kernel_rfl) (by kernel_rfl) (fun _ _ _ h => h) (Or.inl ⟨by rfl, ?hy5⟩) HS0.out ?rest5
          case hy5 => intro V hV; have d0 := cells_at hV.eb 0 _ rfl; have d1 := cells_at hV.eb 1 _ rfl; have d2 := cells_at hV.eb 2 _ rfl; have d3 := cells_at hV.eb 3 _ rfl; have d4 := cells_at hV.eb 4 _ rfl; have d5 := cells_at hV.eb 5 _ rfl; have d6 := cells_at hV.eb 6 _ rfl; have d7 := cells_at hV.eb 7 _ rfl; have d8 := cells_at hV.eb 8 _ rfl; have d9 := cells_at hV.eb 9 _ rfl; have d10 := cells_at hV.eb 10 _ rfl; have d11 := cells_at hV.eb 11 _ rfl; have d12 := cells_at hV.eb 12 _ rfl; have d13 := cells_at hV.eb 13 _ rfl; have d14 := cells_at hV.eb 14 _ rfl; have e0 := cells_at hV.eg 0 _ rfl; have e1 := cells_at hV.eg 1 _ rfl; have np := hV.np; have no := hV.no; go_simp; (try with_reducible rfl)
          case rest5 =>
          clear inv
          intro inv
          (try simp only [Act.put])
          refine wpAnyE_take (i := 6) (v := ?v6) hsk inv (by decide) rfl (by kernel_rfl) (by kernel_rfl) (fun _ _ _ h => h) (Or.inl ⟨by rfl, ?hy6⟩) HS0.out ?rest6
          case hy6 => intro V hV; have d0 := cells_at hV.eb 0 _ rfl; have d1 := cells_at hV.eb 1 _ rfl; have d2 := cells_at hV.eb 2 _ rfl; have d3 := cells_at hV.eb 3 _ rfl; have d4 := cells_at hV.eb 4 _ rfl; have d5 := cells_at hV.eb 5 _ rfl; have d6 := cells_at hV.eb 6 _ rfl; have d7 := cells_at hV.eb 7 _ rfl; have d8 := cells_at hV.eb 8 _ rfl; have d9 := cells_at hV.eb 9 _ rfl; have d10 := cells_at hV.eb 10 _ rfl; have d11 := cells_at hV.eb 11 _ rfl; have d12 := cells_at hV.eb 12 _ rfl; have d13 := cells_at hV.eb 13 _ rfl; have d14 := cells_at hV.eb 14 _ rfl; have e0 := cells_at hV.eg 0 _ rfl; have e1 := cells_at hV.eg 1 _ rfl; have np := hV.np; have no := hV.no; go_simp; (try with_reducible rfl)
          case rest6 =>
          clear inv
          intro inv
          (try simp only [Act.put])
          refine wpAnyE_take (i := 7) (v := ?v7) hsk inv (by decide) rfl (by kernel_rfl) (by kernel_rfl) (fun _ _ _ h => h) (Or.inl ⟨by rfl, ?hy7⟩) HS0.out ?rest7
          case hy7 => intro V hV; have d0 := cells_at hV.eb 0 _ rfl; have d1 := cells_at hV.eb 1 _ rfl; have d2 := cells_at hV.eb 2 _ rfl; have d3 := cells_at hV.eb 3 _ rfl; have d4 := cells_at hV.eb 4 _ rfl; have d5 := cells_at hV.eb 5 _ rfl; have d6 := cells_at hV.eb 6 _ rfl; have d7 := cells_at hV.eb 7 _ rfl; have d8 := cells_at hV.eb 8 _ rfl; have d9 := cells_at hV.eb 9 _ rfl; have d10 := cells_at hV.eb 10 _ rfl; have d11 := cells_at hV.eb 11 _ rfl; have d12 := cells_at hV.eb 12 _ rfl; have d13 := cells_at hV.eb 13 _ rfl; have d14 := cells_at hV.eb 14 _ rfl; have e0 := cells_at hV.eg 0 _ rfl; have e1 := cells_at hV.eg 1 _ rfl; have np := hV.np; have no := hV.no; go_simp; (try with_reducible rfl)
          case rest7 =>
          clear inv
          intro inv
          (try simp only [Act.put])
          refine wpAnyE_take (i := 8) (v := ?v8) hsk inv (by decide) rfl (by kernel_rfl) (by kernel_rfl) (fun _ _ _ h => h) (Or.inl ⟨by rfl, ?hy8⟩) HS0.out ?rest8
          case hy8 => intro V hV; have d0 := cells_at hV.eb 0 _ rfl; have d1 := cells_at hV.eb 1 _ rfl; have d2 := cells_at hV.eb 2 _ rfl; have d3 := cells_at hV.eb 3 _ rfl; have d4 := cells_at hV.eb 4 _ rfl; have d5 := cells_at hV.eb 5 _ rfl; have d6 := cells_at hV.eb 6 _ rfl; have d7 := cells_at hV.eb 7 _ rfl; have d8 := cells_at hV.eb 8 _ rfl; have d9 := cells_at hV.eb 9 _ rfl; have d10 := cells_at hV.eb 10 _ rfl; have d11 := cells_at hV.eb 11 _ rfl; have d12 := cells_at hV.eb 12 _ rfl; have d13 := cells_at hV.eb 13 _ rfl; have d14 := cells_at hV.eb 14 _ rfl; have e0 := cells_at hV.eg 0 _ rfl; have e1 := cells_at hV.eg 1 _ rfl; have np := hV.np; have no := hV.no; go_simp; (try with_reducible rfl)
          case rest8 =>
          clear inv
          intro inv
          (try simp only [Act.put])
          refine wpAnyE_take (i := 9) (v := ?v9) hsk inv (by decide) rfl (by kernel_rfl) (by kernel_rfl) (fun _ _ _ h => h) (Or.inl ⟨by rfl, ?hy9⟩) HS0.out ?rest9
          case hy9 => intro V hV; have d0 := cells_at hV.eb 0 _ rfl; have d1 := cells_at hV.eb 1 _ rfl; have d2 := cells_at hV.eb 2 _ rfl; have d3 := cells_at hV.eb 3 _ rfl; have d4 := cells_at hV.eb 4 _ rfl; have d5 := cells_at hV.eb 5 _ rfl; have d6 := cells_at hV.eb 6 _ rfl; have d7 := cells_at hV.eb 7 _ rfl; have d8 := cells_at hV.eb 8 _ rfl; have d9 := cells_at hV.eb 9 _ rfl; have d10 := cells_at hV.eb 10 _ rfl; have d11 := cells_at hV.eb 11 _ rfl; have d12 := cells_at hV.eb 12 _ rfl; have d13 := cells_at hV.eb 13 _ rfl; have d14 := cells_at hV.eb 14 _ rfl; have e0 := cells_at hV.eg 0 _ rfl; have e1 := cells_at hV.eg 1 _ rfl; have np := hV.np; have no := hV.no; go_simp; (try with_reducible rfl)
          case rest9 =>
          clear inv
          intro inv
          (try simp only [Act.put])
          refine wpAnyE_take (i := 10) (v := ?v10) hsk inv (by decide) rfl (by kernel_rfl) (by kernel_rfl) (fun _ _ _ h => h) (Or.inl ⟨by rfl, ?hy10⟩) HS0.out ?rest10
          case hy10 => intro V hV; have d0 := cells_at hV.eb 0 _ rfl; have d1 := cells_at hV.eb 1 _ rfl; have d2 := cells_at hV.eb 2 _ rfl; have d3 := cells_at hV.eb 3 _ rfl; have d4 := cells_at hV.eb 4 _ rfl; have d5 := cells_at hV.eb 5 _ rfl; have d6 := cells_at hV.eb 6 _ rfl; have d7 := cells_at hV.eb 7 _ rfl; have d8 := cells_at hV.eb 8 _ rfl; have d9 := cells_at hV.eb 9 _ rfl; have d10 := cells_at hV.eb 10 _ rfl; have d11 := cells_at hV.eb 11 _ rfl; have d12 := cells_at hV.eb 12 _ rfl; have d13 := cells_at hV.eb 13 _ rfl; have d14 := cells_at hV.eb 14 _ rfl; have e0 := cells_at hV.eg 0 _ rfl; have e1 := cells_at hV.eg 1 _ rfl; have np := hV.np; have no := hV.no; go_simp; (try with_reducible rfl)
          case rest10 =>
          clear inv
          intro inv
          (try simp only [Act.put])
          refine wpAnyE_take (i := 11) (v := ?v11) hsk inv (by decide) rfl (by kernel_rfl) (by kernel_rfl) (fun _ _ _ h => h) (Or.inl ⟨by rfl, ?hy11⟩) HS0.out ?rest11
          case hy11 => intro V hV; have d0 := cells_at hV.eb 0 _ rfl; have d1 := cells_at hV.eb 1 _ rfl; have d2 := cells_at hV.eb 2 _ rfl; have d3 := cells_at hV.eb 3 _ rfl; have d4 := cells_at hV.eb 4 _ rfl; have d5 := cells_at hV.eb 5 _ rfl; have d6 := cells_at hV.eb 6 _ rfl; have d7 := cells_at hV.eb 7 _ rfl; have d8 := cells_at hV.eb 8 _ rfl; have d9 := cells_at hV.eb 9 _ rfl; have d10 := cells_at hV.eb 10 _ rfl; have d11 := cells_at hV.eb 11 _ rfl; have d12 := cells_at hV.eb 12 _ rfl; have d13 := cells_at hV.eb 13 _ rfl; have d14 := cells_at hV.eb 14 _ rfl; have e0 := cells_at hV.eg 0 _ rfl; have e1 := cells_at hV.eg 1 _ rfl; have np := hV.np; have no := hV.no; go_simp; (try with_reducible rfl)
          case rest11 =>
          clear inv
          intro inv
          (try simp only [Act.put])
          refine wpAnyE_take (i := 12) (v := ?v12) hsk inv (by decide) rfl (by kernel_rfl) (by kernel_rfl) (fun _ _ _ h => h) (Or.inl ⟨by rfl, ?hy12⟩) HS0.out ?rest12
          case hy12 => intro V hV; have d0 := cells_at hV.eb 0 _ rfl; have d1 := cells_at hV.eb 1 _ rfl; have d2 := cells_at hV.eb 2 _ rfl; have d3 := cells_at hV.eb 3 _ rfl; have d4 := cells_at hV.eb 4 _ rfl; have d5 := cells_at hV.eb 5 _ rfl; have d6 := cells_at hV.eb 6 _ rfl; have d7 := cells_at hV.eb 7 _ rfl; have d8 := cells_at hV.eb 8 _ rfl; have d9 := cells_at hV.eb 9 _ rfl; have d10 := cells_at hV.eb 10 _ rfl; have d11 := cells_at hV.eb 11 _ rfl; have d12 := cells_at hV.eb 12 _ rfl; have d13 := cells_at hV.eb 13 _ rfl; have d14 := cells_at hV.eb 14 _ rfl; have e0 := cells_at hV.eg 0 _ rfl; have e1 := cells_at hV.eg 1 _ rfl; have np := hV.np; have no := hV.no; go_simp; (try with_reducible rfl)
          case rest12 =>
          clear inv
          intro inv
          (try simp only [Act.put])
          refine wpAnyE_take (i := 13) (v := ?v13) hsk inv (by decide) rfl (by kernel_rfl) (by kernel_rfl) (fun _ _ _ h => h) (Or.inl ⟨by rfl, ?hy13⟩) HS0.out ?rest13
          case hy13 => intro V hV; have d0 := cells_at hV.eb 0 _ rfl; have d1 := cells_at hV.eb 1 _ rfl; have d2 := cells_at hV.eb 2 _ rfl; have d3 := cells_at hV.eb 3 _ rfl; have d4 := cells_at hV.eb 4 _ rfl; have d5 := cells_at hV.eb 5 _ rfl; have d6 := cells_at hV.eb 6 _ rfl; have d7 := cells_at hV.eb 7 _ rfl; have d8 := cells_at hV.eb 8 _ rfl; have d9 := cells_at hV.eb 9 _ rfl; have d10 := cells_at hV.eb 10 _ rfl; have d11 := cells_at hV.eb 11 _ rfl; have d12 := cells_at hV.eb 12 _ rfl; have d13 := cells_at hV.eb 13 _ rfl; have d14 := cells_at hV.eb 14 _ rfl; have e0 := cells_at hV.eg 0 _ rfl; have e1 := cells_at hV.eg 1 _ rfl; have np := hV.np; have no := hV.no; go_simp; (try with_reducible rfl)
          case rest13 =>
          clear inv
          intro inv
          (try simp only [Act.put])
          refine wpAnyE_take (i := 14) (v := ?v14) hsk inv (by decide) rfl (by kernel_rfl) (by kernel_rfl) (fun _ _ _ h => h) (Or.inl ⟨by rfl, ?hy14⟩) HS0.out ?rest14
          case hy14 => intro V hV; have d0 := cells_at hV.eb 0 _ rfl; have d1 := cells_at hV.eb 1 _ rfl; have d2 := cells_at hV.eb 2 _ rfl; have d3 := cells_at hV.eb 3 _ rfl; have d4 := cells_at hV.eb 4 _ rfl; have d5 := cells_at hV.eb 5 _ rfl; have d6 := cells_at hV.eb 6 _ rfl; have d7 := cells_at hV.eb 7 _ rfl; have d8 := cells_at hV.eb 8 _ rfl; have d9 := cells_at hV.eb 9 _ rfl; have d10 := cells_at hV.eb 10 _ rfl; have d11 := cells_at hV.eb 11 _ rfl; have d12 := cells_at hV.eb 12 _ rfl; have d13 := cells_at hV.eb 13 _ rfl; have d14 := cells_at hV.eb 14 _ rfl; have e0 := cells_at hV.eg 0 _ rfl; have e1 := cells_at hV.eg 1 _ rfl; have np := hV.np; have no := hV.no; go_simp; (try with_reducible rfl)
          case rest14 =>
          clear inv
          intro inv
          (try simp only [Act.put])
          refine wpAnyE_take (i := 15) (v := ?v15) hsk inv (by decide) rfl (by kernel_rfl) (by kernel_rfl) (fun _ _ _ h => h) (Or.inl ⟨by rfl, ?hy15⟩) HS0.out ?rest15
          case hy15 => intro V hV; have d0 := cells_at hV.eb 0 _ rfl; have d1 := cells_at hV.eb 1 _ rfl; have d2 := cells_at hV.eb 2 _ rfl; have d3 := cells_at hV.eb 3 _ rfl; have d4 := cells_at hV.eb 4 _ rfl; have d5 := cells_at hV.eb 5 _ rfl; have d6 := cells_at hV.eb 6 _ rfl; have d7 := cells_at hV.eb 7 _ rfl; have d8 := cells_at hV.eb 8 _ rfl; have d9 := cells_at hV.eb 9 _ rfl; have d10 := cells_at hV.eb 10 _ rfl; have d11 := cells_at hV.eb 11 _ rfl; have d12 := cells_at hV.eb 12 _ rfl; have d13 := cells_at hV.eb 13 _ rfl; have d14 := cells_at hV.eb 14 _ rfl; have e0 := cells_at hV.eg 0 _ rfl; have e1 := cells_at hV.eg 1 _ rfl; have np := hV.np; have no := hV.no; go_simp; (try with_reducible rfl)
          case rest15 =>
          clear inv
          intro inv
          (try simp only [Act.put])
          refine wpAnyE_take (i := 16) (v := ?v16) hsk inv (by decide) rfl (by kernel_rfl) (by kernel_rfl) (fun _ _ _ h => h) (Or.inl ⟨by rfl, ?hy16⟩) HS0.out ?rest16
          case hy16 => intro V hV; have d0 := cells_at hV.eb 0 _ rfl; have d1 := cells_at hV.eb 1 _ rfl; have d2 := cells_at hV.eb 2 _ rfl; have d3 := cells_at hV.eb 3 _ rfl; have d4 := cells_at hV.eb 4 _ rfl; have d5 := cells_at hV.eb 5 _ rfl; have d6 := cells_at hV.eb 6 _ rfl; have d7 := cells_at hV.eb 7 _ rfl; have d8 := cells_at hV.eb 8 _ rfl; have d9 := cells_at hV.eb 9 _ rfl; have d10 := cells_at hV.eb 10 _ rfl; have d11 := cells_at hV.eb 11 _ rfl; have d12 := cells_at hV.eb 12 _ rfl; have d13 := cells_at hV.eb 13 _ rfl; have d14 := cells_at hV.eb 14 _ rfl; have e0 := cells_at hV.eg 0 _ rfl; have e1 := cells_at hV.eg 1 _ rfl; have np := hV.np; have no := hV.no; go_simp; (try with_reducible rfl)
          case rest16 =>
          clear inv
          intro inv
          (try simp only [Act.put])
          refine wpAnyE_take (i := 17) (v := ?v17) hsk inv (by decide) rfl (by kernel_rfl) (by kernel_rfl) (fun _ _ _ h => h) (Or.inl ⟨by rfl, ?hy17⟩) HS0.out ?rest17
          case hy17 => intro V hV; have d0 := cells_at hV.eb 0 _ rfl; have d1 := cells_at hV.eb 1 _ rfl; have d2 := cells_at hV.eb 2 _ rfl; have d3 := cells_at hV.eb 3 _ rfl; have d4 := cells_at hV.eb 4 _ rfl; have d5 := cells_at hV.eb 5 _ rfl; have d6 := cells_at hV.eb 6 _ rfl; have d7 := cells_at hV.eb 7 _ rfl; have d8 := cells_at hV.eb 8 _ rfl; have d9 := cells_at hV.eb 9 _ rfl; have d10 := cells_at hV.eb 10 _ rfl; have d11 := cells_at hV.eb 11 _ rfl; have d12 := cells_at hV.eb 12 _ rfl; have d13 := cells_at hV.eb 13 _ rfl; have d14 := cells_at hV.eb 14 _ rfl; have e0 := cells_at hV.eg 0 _ rfl; have e1 := cells_at hV.eg 1 _ rfl; have np := hV.np; have no := hV.no; go_simp; (try with_reducible rfl)
          case rest17 =>
          clear inv
          intro inv
          (try simp only [Act.put])
          refine wpAnyE_take (i := 18) (v := ?v18) hsk inv (by decide) rfl (by kernel_rfl) (by kernel_rfl) (fun _ _ _ h => h) (Or.inl ⟨by rfl, ?hy18⟩) HS0.out ?rest18
          case hy18 => intro V hV; have d0 := cells_at hV.eb 0 _ rfl; have d1 := cells_at hV.eb 1 _ rfl; have d2 := cells_at hV.eb 2 _ rfl; have d3 := cells_at hV.eb 3 _ rfl; have d4 := cells_at hV.eb 4 _ rfl; have d5 := cells_at hV.eb 5 _ rfl; have d6 := cells_at hV.eb 6 _ rfl; have d7 := cells_at hV.eb 7 _ rfl; have d8 := cells_at hV.eb 8 _ rfl; have d9 := cells_at hV.eb 9 _ rfl; have d10 := cells_at hV.eb 10 _ rfl; have d11 := cells_at hV.eb 11 _ rfl; have d12 := cells_at hV.eb 12 _ rfl; have d13 := cells_at hV.eb 13 _ rfl; have d14 := cells_at hV.eb 14 _ rfl; have e0 := cells_at hV.eg 0 _ rfl; have e1 := cells_at hV.eg 1 _ rfl; have np := hV.np; have no := hV.no; go_simp; (try with_reducible rfl)
          case rest18 =>
          clear inv
          intro inv
          (try simp only [Act.put])
          refine wpAnyE_one (i := 19) inv (by decide) (by kernel_rfl) rfl (fun K hK => ?_)
          go_simp
          go_at_call 38
          refine (HCP.out _ (drewB 1 U)).mono ?_
          rintro r w4 ⟨s', rfl, i0', _, i1', b4⟩
          obtain ⟨xa, xc, e2', _⟩ := i0'.len
          subst e2'
          have b4' : Below U.heap.size U w4 := (drewB 1 U).trans b4
          have HS4 := hide (HSS.out w4 b4')
          have ce4 := HCU.out.below b4'
          have hr4 := ce4.row
          rw [HEL.out] at hr4
          have hcell : ∀ j, j < 12 → ∃ v, w4.cell? ⟨W.heap.size, ii * 12 + j, none⟩ = some v := fun j hj => by
            rw [hr4.cellAt (ii * 12 + j) (show ii * 12 + j < qn * 12 by omega), erow_get E ii hiE j hj]
            exact ⟨_, List.getElem?_eq_getElem (by rw [evOf_len]; exact hj)⟩
          have hfz : ∀ j, w4.frozen? ⟨W.heap.size, ii * 12 + j, none⟩ = false := fun j => hr4.frozenAt _
          obtain ⟨y0, c0'⟩ := hcell 0 (by omega)
          obtain ⟨y1, c1'⟩ := hcell 1 (by omega)
          obtain ⟨y2, c2'⟩ := hcell 2 (by omega)
          obtain ⟨y3, c3'⟩ := hcell 3 (by omega)
          obtain ⟨y4, c4'⟩ := hcell 4 (by omega)
          obtain ⟨y5, c5'⟩ := hcell 5 (by omega)
          obtain ⟨y6, c6'⟩ := hcell 6 (by omega)
          obtain ⟨y7, c7'⟩ := hcell 7 (by omega)
          obtain ⟨y8, c8'⟩ := hcell 8 (by omega)
          obtain ⟨y9, c9'⟩ := hcell 9 (by omega)
          obtain ⟨y10, c10'⟩ := hcell 10 (by omega)
          obtain ⟨y11, c11'⟩ := hcell 11 (by omega)
          have z0 := hfz 0
          have z1 := hfz 1
          have z2 := hfz 2
          have z3 := hfz 3
          have z4 := hfz 4
          have z5 := hfz 5
          have z6 := hfz 6
          have z7 := hfz 7
          have z8 := hfz 8
          have z9 := hfz 9
          have z10 := hfz 10
          have z11 := hfz 11
          rw [Nat.add_zero] at c0' z0
          have CE4 := hide ce4
          have HR4 := hide hr4
          have I1 := hide i1'
          have B4 := hide b4'
          clear ce4 hr4 i0' i1' b4 b4' hcell hfz
          refine hK.out _ _ HS4.out ?_
          clear hK K inv
          intro inv
          (try simp only [Act.put, List.setIfInBounds_toArray, List.set_cons_zero, List.set_cons_succ])
          refine wpAnyE_one (i := 20) inv (by decide) (by kernel_rfl) rfl (fun K hK => ?_)
          go_simp
          refine hK.out _ _ HS4.out ?_
          clear hK K inv
          intro inv
          (try simp only [Act.put, List.setIfInBounds_toArray, List.set_cons_zero, List.set_cons_succ])
          refine wpAnyE_one (i := 21) inv (by decide) (by kernel_rfl) rfl (fun K hK => ?_)
          go_simp
          refine hK.out _ _ HS4.out ?_
          clear hK K inv
          intro inv
          (try simp only [Act.put, List.setIfInBounds_toArray, List.set_cons_zero, List.set_cons_succ])
          refine wpAnyE_last (by kernel_rfl) (by kernel_rfl) rfl (fun K hK => ?_)
          go_simp
          refine hK.out _ _ ?_
          clear hK K inv hsk HS0
          clear c0' z0 c1' z1 c2' z2 c3' z3 c4' z4 c5' z5 c6' z6 c7' z7 c8' z8 c9' z9 c10' z10 c11' z11
          obtain ⟨r5, k5⟩ := erow_put HR4.out ii hiE (⟨1, P[ip], O[io], xop, xg, 0, 0, 0⟩, .slice xa xg.items.length xc)
          dsimp only at r5 k5
          obtain ⟨W5, hW5⟩ : ∃ W5, ((((((((((((w4.setCell ⟨W.heap.size, ii * 12, none⟩ (.int .i64 1)).setCell ⟨W.heap.size, ii * 12 + 1, none⟩ (.string (bsN P[ip]))).setCell ⟨W.heap.size, ii * 12 + 2, none⟩ (.string (bsN O[io]))).setCell ⟨W.heap.size, ii * 12 + 3, none⟩ (.string (bsN xop))).setCell ⟨W.heap.size, ii * 12 + 4, none⟩ (.int .i64 xg.kind)).setCell ⟨W.heap.size, ii * 12 + 5, none⟩ (.int .i64 xg.int)).setCell ⟨W.heap.size, ii * 12 + 6, none⟩ (.int .i64 xg.im)).setCell ⟨W.heap.size, ii * 12 + 7, none⟩ (.string xg.text)).setCell ⟨W.heap.size, ii * 12 + 8, none⟩ (.slice xa xg.items.length xc)).setCell ⟨W.heap.size, ii * 12 + 9, none⟩ (.int .i64 0)).setCell ⟨W.heap.size, ii * 12 + 10, none⟩ (.int .i64 0)).setCell ⟨W.heap.size, ii * 12 + 11, none⟩ (.int .i64 0)) = W5 := ⟨_, rfl⟩
          rw [hW5] at r5 k5 ⊢
          clear hW5
          have hz4 := B4.out.size
          have hz5 := k5.size
          have lw4 : wr.heap.size < w4.heap.size := by have := HZU.out; omega
          have hin : ItemsIn w4 (fun b => b < w.heap.size ∨ (wr.heap.size < b ∧ b < w4.heap.size)) (n + 1) (.slice xa xg.items.length xc) xg.items := by
            rcases I1.out with e | e
            · rw [e]
              exact (HIT.out.1.toIn).kept (fun b o hb => cell_block ((HBU.out.trans (B4.out.mono HBU.out.size)).block b hb) o) (fun b hb => .inl hb)
            · exact e.kept (fun b o hb => rfl) (fun b hb => .inr ⟨by have h1 : U.heap.size ≤ b := hb.1; have := HZU.out; omega, hb.2⟩)
          have ce5 := CE4.out.put HEL.out ii hiE (⟨1, P[ip], O[io], xop, xg, 0, 0, 0⟩, .slice xa xg.items.length xc) r5 k5 hin ⟨HH.out.nmp _ (List.getElem_mem _), HH.out.nmo _ (List.getElem_mem _), HIT.out.2.2.2.2.2.2, HIT.out.2.2.1⟩ HIT.out.2.2.2.2.1 (fun b hb => by omega)
          have e5 := (k5.block wr.heap.size lw4 (by omega)).trans HS4.out.eb
          have p5 := (k5.block w.heap.size (by omega) (by omega)).trans HS4.out.eg
          have np5 := (cell_block (k5.block bp (by omega) (by omega)) (op0 + ip)).trans HS4.out.np
          have no5 := (cell_block (k5.block bo (by omega) (by omega)) (oo0 + io)).trans HS4.out.no
          have b5 : Below w.heap.size w W5 := (HBU.out.trans (B4.out.mono HBU.out.size)).trans (k5.toBelow (by omega) (fun x h => by omega))
          obtain ⟨E5, hE5⟩ : ∃ E5, E.set ii ((⟨1, P[ip], O[io], xop, xg, 0, 0, 0⟩ : Evn), Value.slice xa xg.items.length xc) = E5 := ⟨_, rfl⟩
          rw [hE5] at ce5
          have hl5 : E5.length = qn := by rw [← hE5, List.length_set]; exact HEL.out
          have hm5 : (E.map (·.1)).set ii (invEv P O ⟨ip, io, xop, xg, ii, xr, xy⟩) = E5.map (·.1) := by
            rw [← hE5, List.map_set]
            congr 1
            unfold invEv
            simp only [Int.toNat_natCast]
            rw [getD_at hip, getD_at hio]
          have hfr : freeAt (E.map (·.1)) ii = true := by
            unfold freeAt
            simp [hiE, HFK.out]
          have t9 := cells_at e5 9 _ rfl
          have HE5 := hide e5
          have HP5 := hide p5
          have HNP := hide np5
          have HNN := hide no5
          have HB5 := hide b5
          have HC5 := hide ce5
          have HL5 := hide hl5
          have HM5 := hide hm5
          have HFR := hide hfr
          have lw5 : wr.heap.size < W5.heap.size := by omega
          have lg5 : W.heap.size < W5.heap.size := by omega
          clear HCP HSS HS4 CE4 HR4 I1 B4 r5 k5 hin ce5 e5 p5 np5 no5 b5 hE5 hl5 hm5 hfr hz4 hz5
          by_cases hxr : xr < 0
          · obtain rfl : xr = -1 := by omega
            have HLN := hide (HSTEP.out.trans (stepR_inv (c := ⟨ip, io, xop, xg, ii, -1, xy⟩) HOK.out (by simpa using HFR.out) (by simp)))
            go_wp2
            go_roundw
            case rel => exact ⟨k + 1, _, E5, by omega, by go_num, HLN.out.trans (by simp only [Int.toNat_natCast]; rw [HM5.out]), HL5.out, HC5.out, HP5.out, HB5.out⟩
            case measure => simp [intOf]; omega
          · obtain ⟨ir, rfl⟩ : ∃ i : Nat, xr = (i : Int) := ⟨xr.toNat, by omega⟩
            have hir : ir < qn := by omega
            have hirE : ir < E5.length := by have := HL5.out; omega
            have r0 : (0 : Int) ≤ (ir : Int) := by omega
            have r1 : (ir : Int) < (qn : Int) := by omega
            have hkc : W5.cell? ⟨W.heap.size, ir * 12, none⟩ = some (.int .i64 E5[ir].1.kind) := by
              have hr0 := HC5.out.row
              rw [HL5.out] at hr0
              have h0 := hr0.cellAt (ir * 12) (show ir * 12 < qn * 12 by omega)
              have h1 := erow_get E5 ir hirE 0 (by omega)
              rw [Nat.add_zero] at h1
              exact h0.trans h1
            by_cases hfk : E5[ir].1.kind = 0
            rotate_left
            · have HNO := hide (fun w' : World => REvR.no (n := n + 1) (w' := w') (k := k) (HSTEP.out.trans (stepR_busy2 (c := ⟨ip, io, xop, xg, ii, ir, xy⟩) (by simp) (by simp only [Int.toNat_natCast]; rw [HM5.out]; unfold freeAt; simp [hirE, hfk]))) hlt)
              have hfb : (E5[ir].1.kind != 0) = true := by simpa using hfk
              generalize E5[ir].1.kind = kd at *
              go_wp2
              go_ret2
              exact ⟨⟨_, _, rfl, HNO.out _⟩, HB5.out⟩
            have HFK5 := hide hfk
            rw [hfk] at hkc
            clear hfk
            go_upto_region 20 with (fail)
            have HSS := hide (fun (V : World) (hV : Below W5.heap.size W5 V) => (⟨(hV.block _ lw5).trans HE5.out, (hV.block _ (by omega)).trans HP5.out, (hV.cell (p := ⟨bp, op0 + ip, none⟩) (by simp only; omega)).trans HNP.out, (hV.cell (p := ⟨bo, oo0 + io, none⟩) (by simp only; omega)).trans HNN.out⟩ : SEv V wr.heap.size w.heap.size (⟨ip, io, xop, xg, ii, ir, xy⟩, .slice sa1 xg.items.length sc1, .slice sr1 xy.items.length sr2) (.slice (some ⟨bp, op0, none⟩) P.length c0) (.slice (some ⟨bo, oo0, none⟩) O.length c1) (.slice (some ⟨b3, o3, none⟩) cs.length c2) bp (op0 + ip) P[ip] bo (oo0 + io) O[io]))
            clear t9 hkc
            have HCP := hide (fun (V : World) (hV : Below W5.heap.size W5 V) => refCopy_k xy V (n + 1) (.slice sr1 xy.items.length sr2) HIT.out.2.2.2.2.2.1 ((HIT.out.2.1.below (HB5.out.trans (hV.mono HB5.out.size))).up (Nat.le_trans HB5.out.size hV.size)))
            refine wp_region_E 14 15 (fun V => SEv V wr.heap.size w.heap.size (⟨ip, io, xop, xg, ii, ir, xy⟩, .slice sa1 xg.items.length sc1, .slice sr1 xy.items.length sr2) (.slice (some ⟨bp, op0, none⟩) P.length c0) (.slice (some ⟨bo, oo0, none⟩) O.length c1) (.slice (some ⟨b3, o3, none⟩) cs.length c2) bp (op0 + ip) P[ip] bo (oo0 + io) O[io]) (by kernel_rfl) (by kernel_rfl) (by kernel_rfl) (by kernel_rfl) (by decide) (by kernel_rfl) ?_
            intro hsk inv
            have HS0 := hide (HSS.out W5.drew (drewB 1 W5))
            refine wpAnyE_take (i := 0) (v := ?vb0) hsk inv (by decide) rfl (by kernel_rfl) (by kernel_rfl) (fun _ _ _ h => h) (Or.inl ⟨by rfl, ?hyb0⟩) HS0.out ?restb0
            case hyb0 => intro V hV; have d0 := cells_at hV.eb 0 _ rfl; have d1 := cells_at hV.eb 1 _ rfl; have d2 := cells_at hV.eb 2 _ rfl; have d3 := cells_at hV.eb 3 _ rfl; have d4 := cells_at hV.eb 4 _ rfl; have d5 := cells_at hV.eb 5 _ rfl; have d6 := cells_at hV.eb 6 _ rfl; have d7 := cells_at hV.eb 7 _ rfl; have d8 := cells_at hV.eb 8 _ rfl; have d9 := cells_at hV.eb 9 _ rfl; have d10 := cells_at hV.eb 10 _ rfl; have d11 := cells_at hV.eb 11 _ rfl; have d12 := cells_at hV.eb 12 _ rfl; have d13 := cells_at hV.eb 13 _ rfl; have d14 := cells_at hV.eb 14 _ rfl; have e0 := cells_at hV.eg 0 _ rfl; have e1 := cells_at hV.eg 1 _ rfl; have np := hV.np; have no := hV.no; go_simp; (try with_reducible rfl)
            case restb0 =>
            clear inv
            intro inv
            (try simp only [Act.put, List.setIfInBounds_toArray])
            refine wpAnyE_take (i := 1) (v := ?vb1) hsk inv (by decide) rfl (by kernel_rfl) (by kernel_rfl) (fun _ _ _ h => h) (Or.inl ⟨by rfl, ?hyb1⟩) HS0.out ?restb1
            case hyb1 => intro V hV; have d0 := cells_at hV.eb 0 _ rfl; have d1 := cells_at hV.eb 1 _ rfl; have d2 := cells_at hV.eb 2 _ rfl; have d3 := cells_at hV.eb 3 _ rfl; have d4 := cells_at hV.eb 4 _ rfl; have d5 := cells_at hV.eb 5 _ rfl; have d6 := cells_at hV.eb 6 _ rfl; have d7 := cells_at hV.eb 7 _ rfl; have d8 := cells_at hV.eb 8 _ rfl; have d9 := cells_at hV.eb 9 _ rfl; have d10 := cells_at hV.eb 10 _ rfl; have d11 := cells_at hV.eb 11 _ rfl; have d12 := cells_at hV.eb 12 _ rfl; have d13 := cells_at hV.eb 13 _ rfl; have d14 := cells_at hV.eb 14 _ rfl; have e0 := cells_at hV.eg 0 _ rfl; have e1 := cells_at hV.eg 1 _ rfl; have np := hV.np; have no := hV.no; go_simp; (try with_reducible rfl)
            case restb1 =>
            clear inv
            intro inv
            (try simp only [Act.put])
            refine wpAnyE_take (i := 2) (v := ?vb2) hsk inv (by decide) rfl (by kernel_rfl) (by kernel_rfl) (fun _ _ _ h => h) (Or.inl ⟨by rfl, ?hyb2⟩) HS0.out ?restb2
            case hyb2 => intro V hV; have d0 := cells_at hV.eb 0 _ rfl; have d1 := cells_at hV.eb 1 _ rfl; have d2 := cells_at hV.eb 2 _ rfl; have d3 := cells_at hV.eb 3 _ rfl; have d4 := cells_at hV.eb 4 _ rfl; have d5 := cells_at hV.eb 5 _ rfl; have d6 := cells_at hV.eb 6 _ rfl; have d7 := cells_at hV.eb 7 _ rfl; have d8 := cells_at hV.eb 8 _ rfl; have d9 := cells_at hV.eb 9 _ rfl; have d10 := cells_at hV.eb 10 _ rfl; have d11 := cells_at hV.eb 11 _ rfl; have d12 := cells_at hV.eb 12 _ rfl; have d13 := cells_at hV.eb 13 _ rfl; have d14 := cells_at hV.eb 14 _ rfl; have e0 := cells_at hV.eg 0 _ rfl; have e1 := cells_at hV.eg 1 _ rfl; have np := hV.np; have no := hV.no; go_simp; (try with_reducible rfl)
            case restb2 =>
            clear inv
            intro inv
            (try simp only [Act.put])
            refine wpAnyE_take (i := 3) (v := ?vb3) hsk inv (by decide) rfl (by kernel_rfl) (by kernel_rfl) (fun _ _ _ h => h) (Or.inl ⟨by rfl, ?hyb3⟩) HS0.out ?restb3
            case hyb3 => intro V hV; have d0 := cells_at hV.eb 0 _ rfl; have d1 := cells_at hV.eb 1 _ rfl; have d2 := cells_at hV.eb 2 _ rfl; have d3 := cells_at hV.eb 3 _ rfl; have d4 := cells_at hV.eb 4 _ rfl; have d5 := cells_at hV.eb 5 _ rfl; have d6 := cells_at hV.eb 6 _ rfl; have d7 := cells_at hV.eb 7 _ rfl; have d8 := cells_at hV.eb 8 _ rfl; have d9 := cells_at hV.eb 9 _ rfl; have d10 := cells_at hV.eb 10 _ rfl; have d11 := cells_at hV.eb 11 _ rfl; have d12 := cells_at hV.eb 12 _ rfl; have d13 := cells_at hV.eb 13 _ rfl; have d14 := cells_at hV.eb 14 _ rfl; have e0 := cells_at hV.eg 0 _ rfl; have e1 := cells_at hV.eg 1 _ rfl; have np := hV.np; have no := hV.no; go_simp; (try with_reducible rfl)
            case restb3 =>
            clear inv
            intro inv
            (try simp only [Act.put])
            refine wpAnyE_take (i := 4) (v := ?vb4) hsk inv (by decide) rfl (by kernel_rfl) (by kernel_rfl) (fun _ _ _ h => h) (Or.inl ⟨by rfl, ?hyb4⟩) HS0.out ?restb4
            case hyb4 => intro V hV; have d0 := cells_at hV.eb 0 _ rfl; have d1 := cells_at hV.eb 1 _ rfl; have d2 := cells_at hV.eb 2 _ rfl; have d3 := cells_at hV.eb 3 _ rfl; have d4 := cells_at hV.eb 4 _ rfl; have d5 := cells_at hV.eb 5 _ rfl; have d6 := cells_at hV.eb 6 _ rfl; have d7 := cells_at hV.eb 7 _ rfl; have d8 := cells_at hV.eb 8 _ rfl; have d9 := cells_at hV.eb 9 _ rfl; have d10 := cells_at hV.eb 10 _ rfl; have d11 := cells_at hV.eb 11 _ rfl; have d12 := cells_at hV.eb 12 _ rfl; have d13 := cells_at hV.eb 13 _ rfl; have d14 := cells_at hV.eb 14 _ rfl; have e0 := cells_at hV.eg 0 _ rfl; have e1 := cells_at hV.eg 1 _ rfl; have np := hV.np; have no := hV.no; go_simp; (try with_reducible rfl)
            case restb4 =>
            clear inv
            intro inv
            (try simp only [Act.put])
            refine wpAnyE_take (i := 5) (v := ?vb5) hsk inv (by decide) rfl (by kernel_rfl) (by kernel_rfl) (fun _ _ _ h => h) (Or.inl ⟨by rfl, ?hyb5⟩) HS0.out ?restb5
            case hyb5 => intro V hV; have d0 := cells_at hV.eb 0 _ rfl; have d1 := cells_at hV.eb 1 _ rfl; have d2 := cells_at hV.eb 2 _ rfl; have d3 := cells_at hV.eb 3 _ rfl; have d4 := cells_at hV.eb 4 _ rfl; have d5 := cells_at hV.eb 5 _ rfl; have d6 := cells_at hV.eb 6 _ rfl; have d7 := cells_at hV.eb 7 _ rfl; have d8 := cells_at hV.eb 8 _ rfl; have d9 := cells_at hV.eb 9 _ rfl; have d10 := cells_at hV.eb 10 _ rfl; have d11 := cells_at hV.eb 11 _ rfl; have d12 := cells_at hV.eb 12 _ rfl; have d13 := cells_at hV.eb 13 _ rfl; have d14 := cells_at hV.eb 14 _ rfl; have e0 := cells_at hV.eg 0 _ rfl; have e1 := cells_at hV.eg 1 _ rfl; have np := hV.np; have no := hV.no; go_simp; (try with_reducible rfl)
            case restb5 =>
            clear inv
            intro inv
            (try simp only [Act.put])
            refine wpAnyE_take (i := 6) (v := ?vb6) hsk inv (by decide) rfl (by kernel_rfl) (by kernel_rfl) (fun _ _ _ h => h) (Or.inl ⟨by rfl, ?hyb6⟩) HS0.out ?restb6
            case hyb6 => intro V hV; have d0 := cells_at hV.eb 0 _ rfl; have d1 := cells_at hV.eb 1 _ rfl; have d2 := cells_at hV.eb 2 _ rfl; have d3 := cells_at hV.eb 3 _ rfl; have d4 := cells_at hV.eb 4 _ rfl; have d5 := cells_at hV.eb 5 _ rfl; have d6 := cells_at hV.eb 6 _ rfl; have d7 := cells_at hV.eb 7 _ rfl; have d8 := cells_at hV.eb 8 _ rfl; have d9 := cells_at hV.eb 9 _ rfl; have d10 := cells_at hV.eb 10 _ rfl; have d11 := cells_at hV.eb 11 _ rfl; have d12 := cells_at hV.eb 12 _ rfl; have d13 := cells_at hV.eb 13 _ rfl; have d14 := cells_at hV.eb 14 _ rfl; have e0 := cells_at hV.eg 0 _ rfl; have e1 := cells_at hV.eg 1 _ rfl; have np := hV.np; have no := hV.no; go_simp; (try with_reducible rfl)
            case restb6 =>
            clear inv
            intro inv
            (try simp only [Act.put])
            refine wpAnyE_take (i := 7) (v := ?vb7) hsk inv (by decide) rfl (by kernel_rfl) (by kernel_rfl) (fun _ _ _ h => h) (Or.inl ⟨by rfl, ?hyb7⟩) HS0.out ?restb7
            case hyb7 => intro V hV; have d0 := cells_at hV.eb 0 _ rfl; have d1 := cells_at hV.eb 1 _ rfl; have d2 := cells_at hV.eb 2 _ rfl; have d3 := cells_at hV.eb 3 _ rfl; have d4 := cells_at hV.eb 4 _ rfl; have d5 := cells_at hV.eb 5 _ rfl; have d6 := cells_at hV.eb 6 _ rfl; have d7 := cells_at hV.eb 7 _ rfl; have d8 := cells_at hV.eb 8 _ rfl; have d9 := cells_at hV.eb 9 _ rfl; have d10 := cells_at hV.eb 10 _ rfl; have d11 := cells_at hV.eb 11 _ rfl; have d12 := cells_at hV.eb 12 _ rfl; have d13 := cells_at hV.eb 13 _ rfl; have d14 := cells_at hV.eb 14 _ rfl; have e0 := cells_at hV.eg 0 _ rfl; have e1 := cells_at hV.eg 1 _ rfl; have np := hV.np; have no := hV.no; go_simp; (try with_reducible rfl)
            case restb7 =>
            clear inv
            intro inv
            (try simp only [Act.put])
            refine wpAnyE_take (i := 8) (v := ?vb8) hsk inv (by decide) rfl (by kernel_rfl) (by kernel_rfl) (fun _ _ _ h => h) (Or.inl ⟨by rfl, ?hyb8⟩) HS0.out ?restb8
            case hyb8 => intro V hV; have d0 := cells_at hV.eb 0 _ rfl; have d1 := cells_at hV.eb 1 _ rfl; have d2 := cells_at hV.eb 2 _ rfl; have d3 := cells_at hV.eb 3 _ rfl; have d4 := cells_at hV.eb 4 _ rfl; have d5 := cells_at hV.eb 5 _ rfl; have d6 := cells_at hV.eb 6 _ rfl; have d7 := cells_at hV.eb 7 _ rfl; have d8 := cells_at hV.eb 8 _ rfl; have d9 := cells_at hV.eb 9 _ rfl; have d10 := cells_at hV.eb 10 _ rfl; have d11 := cells_at hV.eb 11 _ rfl; have d12 := cells_at hV.eb 12 _ rfl; have d13 := cells_at hV.eb 13 _ rfl; have d14 := cells_at hV.eb 14 _ rfl; have e0 := cells_at hV.eg 0 _ rfl; have e1 := cells_at hV.eg 1 _ rfl; have np := hV.np; have no := hV.no; go_simp; (try with_reducible rfl)
            case restb8 =>
            clear inv
            intro inv
            (try simp only [Act.put])
            refine wpAnyE_take (i := 9) (v := ?vb9) hsk inv (by decide) rfl (by kernel_rfl) (by kernel_rfl) (fun _ _ _ h => h) (Or.inl ⟨by rfl, ?hyb9⟩) HS0.out ?restb9
            case hyb9 => intro V hV; have d0 := cells_at hV.eb 0 _ rfl; have d1 := cells_at hV.eb 1 _ rfl; have d2 := cells_at hV.eb 2 _ rfl; have d3 := cells_at hV.eb 3 _ rfl; have d4 := cells_at hV.eb 4 _ rfl; have d5 := cells_at hV.eb 5 _ rfl; have d6 := cells_at hV.eb 6 _ rfl; have d7 := cells_at hV.eb 7 _ rfl; have d8 := cells_at hV.eb 8 _ rfl; have d9 := cells_at hV.eb 9 _ rfl; have d10 := cells_at hV.eb 10 _ rfl; have d11 := cells_at hV.eb 11 _ rfl; have d12 := cells_at hV.eb 12 _ rfl; have d13 := cells_at hV.eb 13 _ rfl; have d14 := cells_at hV.eb 14 _ rfl; have e0 := cells_at hV.eg 0 _ rfl; have e1 := cells_at hV.eg 1 _ rfl; have np := hV.np; have no := hV.no; go_simp; (try with_reducible rfl)
            case restb9 =>
            clear inv
            intro inv
            (try simp only [Act.put])
            refine wpAnyE_take (i := 10) (v := ?vb10) hsk inv (by decide) rfl (by kernel_rfl) (by kernel_rfl) (fun _ _ _ h => h) (Or.inl ⟨by rfl, ?hyb10⟩) HS0.out ?restb10
            case hyb10 => intro V hV; have d0 := cells_at hV.eb 0 _ rfl; have d1 := cells_at hV.eb 1 _ rfl; have d2 := cells_at hV.eb 2 _ rfl; have d3 := cells_at hV.eb 3 _ rfl; have d4 := cells_at hV.eb 4 _ rfl; have d5 := cells_at hV.eb 5 _ rfl; have d6 := cells_at hV.eb 6 _ rfl; have d7 := cells_at hV.eb 7 _ rfl; have d8 := cells_at hV.eb 8 _ rfl; have d9 := cells_at hV.eb 9 _ rfl; have d10 := cells_at hV.eb 10 _ rfl; have d11 := cells_at hV.eb 11 _ rfl; have d12 := cells_at hV.eb 12 _ rfl; have d13 := cells_at hV.eb 13 _ rfl; have d14 := cells_at hV.eb 14 _ rfl; have e0 := cells_at hV.eg 0 _ rfl; have e1 := cells_at hV.eg 1 _ rfl; have np := hV.np; have no := hV.no; go_simp; (try with_reducible rfl)
            case restb10 =>
            clear inv
            intro inv
            (try simp only [Act.put])
            refine wpAnyE_one (i := 11) inv (by decide) (by kernel_rfl) rfl (fun K hK => ?_)
            go_simp
            go_at_call 38
            refine (HCP.out _ (drewB 1 W5)).mono ?_
            rintro r w6 ⟨s', rfl, i0', _, i1', b6⟩
            obtain ⟨xa', xc', e2', _⟩ := i0'.len
            subst e2'
            have b6' : Below W5.heap.size W5 w6 := (drewB 1 W5).trans b6
            have HS6 := hide (HSS.out w6 b6')
            have ce6 := HC5.out.below b6'
            have hr6 := ce6.row
            rw [HL5.out] at hr6
            have hcell : ∀ j, j < 12 → ∃ v, w6.cell? ⟨W.heap.size, ir * 12 + j, none⟩ = some v := fun j hj => by
              rw [hr6.cellAt (ir * 12 + j) (show ir * 12 + j < qn * 12 by omega), erow_get E5 ir hirE j hj]
              exact ⟨_, List.getElem?_eq_getElem (by rw [evOf_len]; exact hj)⟩
            have hfz : ∀ j, w6.frozen? ⟨W.heap.size, ir * 12 + j, none⟩ = false := fun j => hr6.frozenAt _
            obtain ⟨y0, c0'⟩ := hcell 0 (by omega)
            obtain ⟨y1, c1'⟩ := hcell 1 (by omega)
            obtain ⟨y2, c2'⟩ := hcell 2 (by omega)
            obtain ⟨y3, c3'⟩ := hcell 3 (by omega)
            obtain ⟨y4, c4'⟩ := hcell 4 (by omega)
            obtain ⟨y5, c5'⟩ := hcell 5 (by omega)
            obtain ⟨y6, c6'⟩ := hcell 6 (by omega)
            obtain ⟨y7, c7'⟩ := hcell 7 (by omega)
            obtain ⟨y8, c8'⟩ := hcell 8 (by omega)
            obtain ⟨y9, c9'⟩ := hcell 9 (by omega)
            obtain ⟨y10, c10'⟩ := hcell 10 (by omega)
            obtain ⟨y11, c11'⟩ := hcell 11 (by omega)
            have z0 := hfz 0
            have z1 := hfz 1
            have z2 := hfz 2
            have z3 := hfz 3
            have z4 := hfz 4
            have z5 := hfz 5
            have z6 := hfz 6
            have z7 := hfz 7
            have z8 := hfz 8
            have z9 := hfz 9
            have z10 := hfz 10
            have z11 := hfz 11
            rw [Nat.add_zero] at c0' z0
            have CE6 := hide ce6
            have HR6 := hide hr6
            have I6 := hide i1'
            have B6 := hide b6'
            clear ce6 hr6 i0' i1' b6 b6' hcell hfz
            refine hK.out _ _ HS6.out ?_
            clear hK K inv
            intro inv
            (try simp only [Act.put, List.setIfInBounds_toArray, List.set_cons_zero, List.set_cons_succ])
            refine wpAnyE_one (i := 12) inv (by decide) (by kernel_rfl) rfl (fun K hK => ?_)
            go_simp
            refine hK.out _ _ HS6.out ?_
            clear hK K inv
            intro inv
            (try simp only [Act.put, List.setIfInBounds_toArray, List.set_cons_zero, List.set_cons_succ])
            refine wpAnyE_one (i := 13) inv (by decide) (by kernel_rfl) rfl (fun K hK => ?_)
            go_simp
            refine hK.out _ _ HS6.out ?_
            clear hK K inv
            intro inv
            (try simp only [Act.put, List.setIfInBounds_toArray, List.set_cons_zero, List.set_cons_succ])
            refine wpAnyE_last (by kernel_rfl) (by kernel_rfl) rfl (fun K hK => ?_)
            go_simp
            refine hK.out _ _ ?_
            clear hK K inv hsk HS0
            clear c0' z0 c1' z1 c2' z2 c3' z3 c4' z4 c5' z5 c6' z6 c7' z7 c8' z8 c9' z9 c10' z10 c11' z11
            obtain ⟨r7, k7⟩ := erow_put HR6.out ir hirE (⟨2, P[ip], [], [], xy, 0, 0, 0⟩, .slice xa' xy.items.length xc')
            dsimp only at r7 k7
            obtain ⟨W7, hW7⟩ : ∃ W7, ((((((((((((w6.setCell ⟨W.heap.size, ir * 12, none⟩ (.int .i64 2)).setCell ⟨W.heap.size, ir * 12 + 1, none⟩ (.string (bsN P[ip]))).setCell ⟨W.heap.size, ir * 12 + 2, none⟩ (.string (bsN []))).setCell ⟨W.heap.size, ir * 12 + 3, none⟩ (.string (bsN []))).setCell ⟨W.heap.size, ir * 12 + 4, none⟩ (.int .i64 xy.kind)).setCell ⟨W.heap.size, ir * 12 + 5, none⟩ (.int .i64 xy.int)).setCell ⟨W.heap.size, ir * 12 + 6, none⟩ (.int .i64 xy.im)).setCell ⟨W.heap.size, ir * 12 + 7, none⟩ (.string xy.text)).setCell ⟨W.heap.size, ir * 12 + 8, none⟩ (.slice xa' xy.items.length xc')).setCell ⟨W.heap.size, ir * 12 + 9, none⟩ (.int .i64 0)).setCell ⟨W.heap.size, ir * 12 + 10, none⟩ (.int .i64 0)).setCell ⟨W.heap.size, ir * 12 + 11, none⟩ (.int .i64 0)) = W7 := ⟨_, rfl⟩
            rw [hW7] at r7 k7
            first
              | rw [hW7]
              | (change _ → _)
              | (rw [show (Value.string ⟨#[]⟩) = Value.string (bsN []) from rfl, hW7])
              | (rw [show (Value.string ByteArray.empty) = Value.string (bsN []) from rfl, hW7])
            clear hW7
            have hz6 := B6.out.size
            have hz7 := k7.size
            have hin : ItemsIn w6 (fun b => b < w.heap.size ∨ (wr.heap.size < b ∧ b < w6.heap.size)) (n + 1) (.slice xa' xy.items.length xc') xy.items := by
              rcases I6.out with e | e
              · rw [e]
                exact (HIT.out.2.1.toIn).kept (fun b o hb => cell_block ((HB5.out.trans (B6.out.mono HB5.out.size)).block b hb) o) (fun b hb => .inl hb)
              · exact e.kept (fun b o hb => rfl) (fun b hb => .inr ⟨by have h1 : W5.heap.size ≤ b := hb.1; omega, hb.2⟩)
            have ce7 := CE6.out.put HL5.out ir hirE (⟨2, P[ip], [], [], xy, 0, 0, 0⟩, .slice xa' xy.items.length xc') r7 k7 hin ⟨HH.out.nmp _ (List.getElem_mem _), by simp, by simp, HIT.out.2.2.2.1⟩ HIT.out.2.2.2.2.2.1 (fun b hb => by omega)
            have p7 := (k7.block w.heap.size (by omega) (by omega)).trans HS6.out.eg
            have b7 : Below w.heap.size w W7 := (HB5.out.trans (B6.out.mono HB5.out.size)).trans (k7.toBelow (by omega) (fun x h => by omega))
            obtain ⟨E7, hE7⟩ : ∃ E7, E5.set ir ((⟨2, P[ip], [], [], xy, 0, 0, 0⟩ : Evn), Value.slice xa' xy.items.length xc') = E7 := ⟨_, rfl⟩
            rw [hE7] at ce7
            have hl7 : E7.length = qn := by rw [← hE7, List.length_set]; exact HL5.out
            have hm7 : (E5.map (·.1)).set ir (resEv P ⟨ip, io, xop, xg, ii, ir, xy⟩) = E7.map (·.1) := by
              rw [← hE7, List.map_set]
              congr 1
              unfold resEv
              simp only [Int.toNat_natCast]
              rw [getD_at hip]
            have hstep : laidR P O cs (k + 1) = some (E7.map (·.1)) := by
              refine HSTEP.out.trans ((stepR_both (c := ⟨ip, io, xop, xg, ii, ir, xy⟩) HOK.out (by simpa using HFR.out) (by simp) (by simp only [Int.toNat_natCast]; rw [HM5.out]; unfold freeAt; simp [hirE, HFK5.out])).trans ?_)
              simp only [Int.toNat_natCast]
              rw [HM5.out, hm7]
            have HC7 := hide ce7
            have HP7 := hide p7
            have HB7 := hide b7
            have HL7 := hide hl7
            have HLN := hide hstep
            clear HCP HSS HS6 CE6 HR6 I6 B6 r7 k7 hin ce7 p7 b7 hE7 hl7 hm7 hz6 hz7 hstep
            go_wp2
            go_roundw
            case rel => exact ⟨k + 1, _, E7, by omega, by go_num, HLN.out, HL7.out, HC7.out, HP7.out, HB7.out⟩
            case measure => simp [intOf]; omega
        · obtain rfl : k = cs.length := by omega
          have hev := hC.evs (by omega)
          have hok := hev.oks
          have hlen1 : (E.map (·.1)).length = qn := by rw [List.length_map]; exact hEl
          have HMK := hide (refMake_k (E.map (·.1)) wr n _ hev)
          have HEV := hide hev
          have HOKS := hide hok
          have HLR := hide hlR
          have HB := hide hb
          have HP := hide hp
          have HLN := hide hlen1
          have lwp : w.heap.size < wr.heap.size := (Array.getElem?_eq_some_iff.1 hp).1
          clear hev hok hlR hb hp hC hEl hlen1
          generalize E.map (·.1) = l at *
          go_upto_region 22 with (go_at_call 39; refine HMK.out.mono ?_; clear HMK; rintro r w5 ⟨⟨m0, m1, m2, at', code, rfl, hrm⟩, b5⟩; obtain ⟨⟨ma0, mm0, mc0, rfl⟩, ⟨ma1, mm1, mc1, rfl⟩, ⟨ma2, mm2, mc2, rfl⟩⟩ := hrm.forms; have RM := hide hrm; have B5 := hide b5; clear hrm b5)
          clear x2
          obtain ⟨X2, hX2⟩ : ∃ X2, w5.alloc (.cells #[.slice ma0 mm0 mc0, .slice ma1 mm1 mc1, .slice ma2 mm2 mc2] 25) = X2 := ⟨_, rfl⟩
          rw [hX2]
          have bX2 : Below w5.heap.size w5 X2 := by rw [← hX2]; exact alloc_v (Below.refl _ _) _
          have eX2 : X2.heap[w5.heap.size]? = some (.cells #[.slice ma0 mm0 mc0, .slice ma1 mm1 mc1, .slice ma2 mm2 mc2] 25 (0, 0)) := by rw [← hX2]; exact World.alloc_heap_new w5 _
          clear hX2
          have bwX := trans_v B5.out bX2
          have pX2 := (bwX.block w.heap.size lwp).trans HP.out
          have bX := HB.out.trans (bwX.mono HB.out.size)
          have HBX := hide bX
          have HBWX := hide bwX
          by_cases hcz : code = 0
          rotate_left
          · have hcb : (code != 0) = true := by simpa using hcz
            have HNO : Hid (∀ E', laidR P O cs cs.length = some E' → ¬ MadeBy P O cs E') := hide (fun E' hE' hm => by
              obtain rfl : l = E' := Option.some.inj (HLR.out.symm.trans hE')
              rcases RM.out with ⟨hre, _⟩ | ⟨h0, _⟩
              · exact (refused_no hre).2 ⟨hm.fine, hm.small⟩
              · exact hcz h0)
            clear hcz pX2 bX bwX eX2
            go_wp2
            go_ret2
            exact ⟨⟨_, _, rfl, .inr ⟨rfl, rfl, HNO.out⟩⟩, HBX.out⟩
          · subst hcz
            obtain ⟨cs', hq, hcs'⟩ := RM.out.past (by have := HLN.out; omega) HOKS.out
            have hg : gOf l 0 = gAt l l.length := by unfold gOf; rw [if_pos rfl]
            rw [hg] at hq hcs'
            have hfs : Fine l l.length ∧ NoLarge l := by
              rcases RM.out with ⟨hre, _⟩ | ⟨_, _, h1, h2, _⟩
              · exact absurd rfl (refused_no hre).1
              · exact ⟨h1, h2⟩
            have HSP := hide (sameP_k X2 (n + 1) (n + 1) _ _ _ _ _ _ P O _ _ cs cs' ((HH.out.below bX).up bX.size) ((hq.below bX2).up bX2.size))
            have HIFF : Hid (SameP P O (gAt l l.length).procs (gAt l l.length).objs cs cs' ↔ MadeBy P O cs l) := hide ⟨fun hs => ⟨hfs.1, hfs.2, hs.1, hs.2.1, hs.2.2.trans hcs'⟩, fun hm => ⟨hm.pr, hm.ob, hm.cl.trans hcs'.symm⟩⟩
            have x0 := cells_at pX2 0 _ rfl
            have x1 := cells_at pX2 1 _ rfl
            have x2 := cells_at pX2 2 _ rfl
            have y0 := cells_at eX2 0 _ rfl
            have y1 := cells_at eX2 1 _ rfl
            have y2 := cells_at eX2 2 _ rfl
            clear pX2 eX2 bX bwX hq hcs' hg hfs bX2
            go_upto_if 157 with (go_at_call 40; refine HSP.out.mono ?_; clear HSP; rintro r w6 ⟨⟨b, rfl, hbi⟩, b6⟩; have HBI := hide hbi; have B6 := hide b6; clear hbi b6)
            clear x0 x1 x2 y0 y1 y2
            have bw6 := HBX.out.trans (B6.out.mono HBX.out.size)
            have HBW6 := hide bw6
            clear bw6
            cases b
            · have HNO : Hid (∀ E', laidR P O cs cs.length = some E' → ¬ MadeBy P O cs E') := hide (fun E' hE' hm => by
                obtain rfl : l = E' := Option.some.inj (HLR.out.symm.trans hE')
                have := HBI.out.2 (HIFF.out.2 hm)
                cases this)
              go_wp2
              go_ret2
              exact ⟨⟨_, _, rfl, .inr ⟨rfl, rfl, HNO.out⟩⟩, HBW6.out⟩
            · have HYES := hide (HIFF.out.1 (HBI.out.1 rfl))
              have b16 := trans_v HBWX.out B6.out
              have HE6 := hide ((HEV.out.below b16).up b16.size)
              clear b16
              go_wp2
              go_ret2
              exact ⟨⟨_, _, rfl, .inl ⟨rfl, l, HLR.out, HYES.out, HE6.out⟩⟩, HBW6.out⟩
end Go.Proofs.YtnmkggoampkekaaGreatDoor
