/- The document's Join; TokenSpells: the walk. -/
import Derived.Test.YthpkjehoogodkaaDoorZKRSp
import Derived.Test.YthpkjehoogodkaaDoorZKHeads
import Derived.Test.YthpkjehoogodkaaDoorZKBack
namespace Go.Proofs.YthpkjehoogodkaaDoor
open Go.RowKit

theorem mem_sum {l : List Nat} {x : Nat} (h : x ∈ l) : x ≤ l.sum := by
  induction l with
  | nil => cases h
  | cons y r ih =>
    rw [List.sum_cons]
    rcases List.mem_cons.1 h with rfl | h
    · omega
    · have := ih h
      omega
set_option maxRecDepth 100000 in
set_option maxHeartbeats 8000000 in
theorem refJoin_k (l : List Tq) (sl : Value) (w : World) (hi : TqAt w w.heap.size sl l) (hs : (l.map fun x => x.t.size).sum + 1 ≤ 1048576) :
    Calls Tryd.prog 14 #[sl] w fun e w' => e = .returned (.tuple #[.string (bif okJ (l.map Tq.tk) then str (jn (l.map Tq.tk)) else ⟨#[]⟩), .int .i64 (bif okJ (l.map Tq.tk) then 0 else 2)]) ∧ Below w.heap.size w w' := by
  have HI := hide hi
  obtain ⟨a, cp, rfl, hlen⟩ := hi.len
  have HOK := hide hi.oks
  have hsz : ∀ x ∈ l, x.t.size + 1 ≤ 1048576 := fun x hx => by
    have : x.t.size ≤ (l.map fun x => x.t.size).sum := mem_sum (List.mem_map.2 ⟨x, hx, rfl⟩)
    omega
  have HSZ := hide hsz
  have HSUM := hide hs
  clear hi hsz hs
  go_enter Tryd.func14, Tryd.ntmps14
  go_wp2
  go_loopw [4, 5] (fun vs v wr => ∃ j : Nat, v = .int .i64 (j : Int) ∧ j ≤ l.length ∧ vs = .string (str (jn ((l.take j).map Tq.tk))) ∧ Hid (∀ i (h : i < l.length), i < j → spOK l[i].tk = true ∧ (l[i].tk.kind = 0 → i + 1 = l.length)) ∧ Below w.heap.size w wr)
    (fun _ v _ => l.length - (Lib.intOf v).toNat)
  case atStart => exact ⟨0, rfl, Nat.zero_le _, rfl, hide (fun i _ h => absurd h (by omega)), Below.refl _ _⟩
  case round =>
    obtain ⟨j, rfl, hj, rfl, HM, hbel⟩ := hrel
    by_cases hlt : j < l.length
    · obtain ⟨b, off, rfl, hbb, p0, p1, p2, p3, p4, p5, hxk⟩ := (HI.out.below hbel).item j hlt
      have hjl := jn_len2 (l.take j) (fun x hx => HOK.out x (List.mem_of_mem_take hx))
      have hsum : ((l.take j).map fun x => x.t.size).sum ≤ 1048576 := by
        have h := HSUM.out
        have e : l = l.take j ++ l.drop j := (List.take_append_drop j l).symm
        rw [e, List.map_append, List.sum_append] at h
        omega
      have hwl := wrT_len2 l[j] hxk (HSZ.out _ (List.getElem_mem hlt))
      have htk : l.take (j + 1) = l.take j ++ [l[j]] := (List.take_succ_eq_append_getElem hlt)
      have hnext : jn ((l.take (j + 1)).map Tq.tk) = (bif j == 0 then jn ((l.take j).map Tq.tk) else jn ((l.take j).map Tq.tk) ++ [32]) ++ wrT l[j].tk := by
        rw [htk, List.map_append, List.map_cons, List.map_nil]
        cases j with
        | zero => simp [jn, jnF]
        | succ j =>
          rw [jn_snoc _ _ (by intro e; have := congrArg List.length e; rw [List.length_map, List.length_take, List.length_nil] at this; omega)]
          simp
      have hbad : spOK l[j].tk = false ∨ (l[j].tk.kind = 0 ∧ j + 1 < l.length) → okJ (l.map Tq.tk) = false := fun h => okJ_bad _ j (by simpa using hlt) (by simpa using h)
      have hgood : spOK l[j].tk = true → (l[j].tk.kind = 0 → j + 1 = l.length) → (∀ i (h : i < l.length), i < j + 1 → spOK l[i].tk = true ∧ (l[i].tk.kind = 0 → i + 1 = l.length)) := fun h1 h2 i hi hij => by
        by_cases e : i = j
        · subst e
          exact ⟨h1, h2⟩
        · exact HM.out i hi (by omega)
      have hA : (jn ((l.take j).map Tq.tk)).length ≤ 40000000 := by
        rw [List.length_take] at hjl
        omega
      have HS := hide (fun (U : World) => refSpell_k l[j] hxk (HSZ.out _ (List.getElem_mem hlt)) U)
      have HB := hide hbel
      have HBAD := hide hbad
      have HGOOD := hide hgood
      have HNEXT := hide hnext
      have ekd : l[j].tk.kind = l[j].k := rfl
      rw [ekd] at HBAD HGOOD
      have hb0 : b < wr.heap.size := by have := hbel.size; omega
      clear hbad hgood hnext hbel htk hjl hsum hxk ekd hbb
      generalize jn ((l.take j).map Tq.tk) = acc at *
      generalize spOK l[j].tk = sp at *
      generalize wrT l[j].tk = wt at *
      have sX : (str wt).size ≤ 1048576 := by rw [str_size]; exact hwl
      have sA : (str acc).size ≤ 40000000 := by rw [str_size]; exact hA
      have hq0 : str acc ++ str wt = str (acc ++ wt) := by rw [str_app, bytes_str, bytes_str]
      have hq1 : str acc ++ (⟨#[32]⟩ : ByteArray) = str (acc ++ [32]) := by rw [str_app, bytes_str]
      have hq2 : str (acc ++ [32]) ++ str wt = str (acc ++ [32] ++ wt) := by rw [str_app, bytes_str, bytes_str]
      have sA1 : (str (acc ++ [32])).size ≤ 40000001 := by rw [str_size, List.length_append]; simp; omega
      have HKP := hide (fun (U : World) (hb : Below wr.heap.size wr U) => kkeepCell p0 hb)
      generalize l[j] = x at *
      obtain ⟨k, o, ln, c, t, i⟩ := x
      dsimp only at *
      generalize hX : str wt = X at *
      generalize hAA : str acc = A at *
      generalize hA1 : str (acc ++ [32]) = A1 at *
      have e0 : str (acc ++ wt) = str (acc ++ wt) := rfl
      generalize hE0 : str (acc ++ wt) = E0 at *
      generalize hE1 : str (acc ++ [32] ++ wt) = E1 at *
      have HE0 := hide hE0
      have HE1 := hide hE1
      clear hX hAA hA1 hE0 hE1 hwl hA e0
      have hgtI : (j : Int) + 1 < (l.length : Int) ↔ j + 1 < l.length := by omega
      cases sp with
      | false =>
        have HO := hide (HBAD.out (.inl rfl))
        simp only [cond_false] at HS
        clear hgtI
        go_wp2_with (go_at_call 12; refine (HS.out _).mono ?_; clear HS; rintro e w2 ⟨rfl, b2⟩; have B2 := hide (ktrans HB.out b2); have y0 := HKP.out _ b2; clear b2)
        go_ret2
        refine ⟨?_, B2.out⟩
        rw [HO.out]
        rfl
      | true =>
        simp only [cond_true] at HS
        by_cases hk0 : k = 0
        · subst hk0
          by_cases hjl : j + 1 < l.length
          · have HO := hide (HBAD.out (.inr ⟨rfl, hjl⟩))
            have hcmp : (j : Int) + 1 < (l.length : Int) := by omega
            clear hgtI
            go_wp2_with (go_at_call 12; refine (HS.out _).mono ?_; clear HS; rintro e w2 ⟨rfl, b2⟩; have B2 := hide (ktrans HB.out b2); have y0 := HKP.out _ b2; clear b2)
            go_ret2
            refine ⟨?_, B2.out⟩
            rw [HO.out]
            rfl
          · have HG := hide (HGOOD.out rfl (fun _ => by omega))
            have hcmp : ¬ (j : Int) + 1 < (l.length : Int) := by omega
            clear hgtI
            cases j with
            | zero =>
              simp only [beq_self_eq_true, cond_true] at HNEXT
              simp only [Nat.zero_mul, Nat.add_zero] at p0 p1 p2 p3 p4 p5 HKP
              go_wp2_with (go_at_call 12; refine (HS.out _).mono ?_; clear HS; rintro e w2 ⟨rfl, b2⟩; have B2 := hide (ktrans HB.out b2); have y0 := HKP.out _ b2; clear b2)
              go_roundw
              case rel => exact ⟨1, rfl, by omega, by rw [HNEXT.out, HE0.out], HG, B2.out⟩
              case measure =>
                simp [Lib.intOf]
                omega
            | succ j =>
              have hgt : (0 : Int) < ((j + 1 : Nat) : Int) := by omega
              have e0 : ((j + 1) == 0) = false := by simp
              rw [e0, cond_false] at HNEXT
              clear e0
              go_wp2_with (go_at_call 12; refine (HS.out _).mono ?_; clear HS; rintro e w2 ⟨rfl, b2⟩; have B2 := hide (ktrans HB.out b2); have y0 := HKP.out _ b2; clear b2)
              go_roundw
              case rel => exact ⟨j + 2, by simp; omega, by omega, by rw [HNEXT.out, HE1.out], HG, B2.out⟩
              case measure =>
                simp [Lib.intOf]
                omega
        · have hk2 : (k == 0) = false := by simpa using hk0
          have HG := hide (HGOOD.out rfl (fun h => absurd h hk0))
          clear hk0 hgtI
          cases j with
          | zero =>
            simp only [beq_self_eq_true, cond_true] at HNEXT
            simp only [Nat.zero_mul, Nat.add_zero] at p0 p1 p2 p3 p4 p5 HKP
            go_wp2_with (go_at_call 12; refine (HS.out _).mono ?_; clear HS; rintro e w2 ⟨rfl, b2⟩; have B2 := hide (ktrans HB.out b2); have y0 := HKP.out _ b2; clear b2)
            go_roundw
            case rel => exact ⟨1, rfl, by omega, by rw [HNEXT.out, HE0.out], HG, B2.out⟩
            case measure =>
              simp [Lib.intOf]
              omega
          | succ j =>
            have hgt : (0 : Int) < ((j + 1 : Nat) : Int) := by omega
            have e0 : ((j + 1) == 0) = false := by simp
            rw [e0, cond_false] at HNEXT
            clear e0
            go_wp2_with (go_at_call 12; refine (HS.out _).mono ?_; clear HS; rintro e w2 ⟨rfl, b2⟩; have B2 := hide (ktrans HB.out b2); have y0 := HKP.out _ b2; clear b2)
            go_roundw
            case rel => exact ⟨j + 2, by simp; omega, by omega, by rw [HNEXT.out, HE1.out], HG, B2.out⟩
            case measure =>
              simp [Lib.intOf]
              omega
    · have hj2 : j = l.length := by omega
      subst hj2
      have hA : okJ (l.map Tq.tk) = true := okJ_all _ (fun i hi => by have := HM.out i (by simpa using hi) (by simpa using hi); simpa using this)
      rw [List.take_length]
      have HA := hide hA
      clear hA
      generalize hQ : str (jn (l.map Tq.tk)) = Q at *
      have HQ := hide hQ
      clear hQ
      go_wp2
      go_ret2
      refine ⟨?_, hbel⟩
      rw [HA.out, cond_true, cond_true]
      first | rfl | (rw [HQ.out]; rfl)

set_option maxRecDepth 100000 in
set_option maxHeartbeats 8000000 in
theorem tokenSpells_walk (x : Tq) (hx : x.ok) (hx1 : x.t.size + 1 ≤ 1048576) (l : List Tq) (sl : Value) (w : World) (hT : KT w) (hi : TqAt w w.heap.size sl l) (hs : (l.map fun x => x.t.size).sum + 1 ≤ 1048576) :
    Calls Tryd.prog 4 #[.agg (tcells x.k x.o x.l x.c x.t x.i), sl] w fun e w' => e = .returned (.bool true) ∧ Below w.heap.size w w' := by
  have H1 := hide (fun (U : World) (h : KT U) => spell_k x hx U h)
  have H2 := hide (fun (U : World) => refSpell_k x hx hx1 U)
  have H3 := hide (fun (U : World) (hb : Below w.heap.size w U) => join_k l sl U (hT.below hb) ((hi.below hb).up hb.size))
  have H4 := hide (fun (U : World) (hb : Below w.heap.size w U) => refJoin_k l sl U ((hi.below hb).up hb.size) hs)
  obtain ⟨a, cp, rfl, hlen⟩ := hi.len
  have HT := hide hT
  clear hi hT hs hx1 hx
  generalize hq : (bif spOK x.tk then str (wrT x.tk) else ⟨#[]⟩) = q at *
  generalize hc : (bif spOK x.tk then (0 : Int) else 2) = c at *
  generalize hq2 : (bif okJ (l.map Tq.tk) then str (jn (l.map Tq.tk)) else ⟨#[]⟩) = q2 at *
  generalize hc2 : (bif okJ (l.map Tq.tk) then (0 : Int) else 2) = c2 at *
  clear hq hc hq2 hc2
  obtain ⟨k, o, ln, cl, t, i⟩ := x
  dsimp only at *
  obtain ⟨W, hW⟩ : ∃ W, w.alloc (.cells (tcells k o ln cl t i) 35) = W := ⟨_, rfl⟩
  have bW : Below w.heap.size w W := by rw [← hW]; exact kalloc (Below.refl _ _) _
  have e1 : W.heap[w.heap.size]? = some (.cells (tcells k o ln cl t i) 35 (0, 0)) := by rw [← hW]; exact World.alloc_heap_new w _
  have hz : w.heap.size < W.heap.size := (Array.getElem?_eq_some_iff.1 e1).1
  have x0 := kcells_at e1 0 _ rfl
  have x1 := kcells_at e1 1 _ rfl
  have x2 := kcells_at e1 2 _ rfl
  have x3 := kcells_at e1 3 _ rfl
  have x4 := kcells_at e1 4 _ rfl
  have x5 := kcells_at e1 5 _ rfl
  have HE := hide e1
  have HB := hide bW
  clear e1 bW
  go_enter Tryd.func4, Tryd.ntmps4
  go_wp2_with (first
    | (go_at_call 11; refine (H1.out _ (HT.out.below HB.out)).mono ?_; clear H1; rintro e w2 ⟨rfl, b2⟩; have g2 := (b2.block _ hz).trans HE.out; have y0 := kcells_at g2 0 _ rfl; have y1 := kcells_at g2 1 _ rfl; have y2 := kcells_at g2 2 _ rfl; have y3 := kcells_at g2 3 _ rfl; have y4 := kcells_at g2 4 _ rfl; have y5 := kcells_at g2 5 _ rfl; have B2 := hide (ktrans HB.out b2); clear b2 g2)
    | (go_at_call 12; refine (H2.out _).mono ?_; clear H2; rintro e w3 ⟨rfl, b3⟩; have B3 := hide (ktrans B2.out b3); clear b3)
    | (go_at_call 13; refine (H3.out _ B3.out).mono ?_; clear H3; rintro e w4 ⟨rfl, b4⟩; have B4 := hide (ktrans B3.out b4); clear b4)
    | (go_at_call 14; refine (H4.out _ B4.out).mono ?_; clear H4; rintro e w5 ⟨rfl, b5⟩; have B5 := hide (ktrans B4.out b5); clear b5)
    | (go_at_call 10; refine (heads9_k _ (HT.out.below B5.out)).mono ?_; rintro e w6 ⟨rfl, b6⟩; have B6 := hide (ktrans B5.out b6); clear b6))
  go_ret
  exact ⟨rfl, B6.out⟩
end Go.Proofs.YthpkjehoogodkaaDoor
