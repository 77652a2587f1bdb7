/- Rows of tokens in memory; what Join answers. -/
import Derived.Test.YthpkjehoogodkaaDoorZKSp
import Derived.Test.YthpkjehoogodkaaDoorGQuote
namespace Go.Proofs.YthpkjehoogodkaaDoor
open Go.RowKit

/-- A slice of tokens that lies in a block below B. -/
def TqAt (w : World) (B : Nat) (sl : Value) (l : List Tq) : Prop := ∃ a c, sl = .slice a l.length c ∧ l.length ≤ 1048576 ∧ ∀ j (h : j < l.length), ∃ b off, a = some ⟨b, off, none⟩ ∧ b < B ∧
  (∀ (i : Nat) (v : Value), (tcells l[j].k l[j].o l[j].l l[j].c l[j].t l[j].i)[i]? = some v → w.cell? ⟨b, off + j * 6 + i, none⟩ = some v) ∧ l[j].ok
theorem TqAt.kept {w w' : World} {B : Nat} {sl : Value} {l : List Tq} (h : TqAt w B sl l) (hk : ∀ b o, b < B → w'.cell? ⟨b, o, none⟩ = w.cell? ⟨b, o, none⟩) : TqAt w' B sl l := by
  obtain ⟨a, c, e, hl, hc⟩ := h
  refine ⟨a, c, e, hl, fun j hj => ?_⟩
  obtain ⟨b, off, e, hb, h0, h1⟩ := hc j hj
  exact ⟨b, off, e, hb, fun i v hv => (hk _ _ hb).trans (h0 i v hv), h1⟩
theorem TqAt.below {w w' : World} {B : Nat} {sl : Value} {l : List Tq} (h : TqAt w B sl l) (hb : Below B w w') : TqAt w' B sl l :=
  h.kept fun b o hB => hb.cell (p := ⟨b, o, none⟩) hB
theorem TqAt.up {w : World} {B B' : Nat} {sl : Value} {l : List Tq} (h : TqAt w B sl l) (hB : B ≤ B') : TqAt w B' sl l := by
  obtain ⟨a, c, e, hl, hc⟩ := h
  refine ⟨a, c, e, hl, fun j hj => ?_⟩
  obtain ⟨b, off, e, hb, h0, h1⟩ := hc j hj
  exact ⟨b, off, e, by omega, h0, h1⟩
theorem TqAt.len {w : World} {B : Nat} {sl : Value} {l : List Tq} (h : TqAt w B sl l) : ∃ a c, sl = .slice a l.length c ∧ l.length ≤ 1048576 := by
  obtain ⟨a, c, e, hl, _⟩ := h
  exact ⟨a, c, e, hl⟩
theorem TqAt.item {w : World} {B : Nat} {a : Option Addr} {m c : Nat} {l : List Tq} (h : TqAt w B (.slice a m c) l) (j : Nat) (hj : j < l.length) : ∃ b off, a = some ⟨b, off, none⟩ ∧ b < B ∧
    w.cell? ⟨b, off + j * 6, none⟩ = some (.int .i64 l[j].k) ∧ w.cell? ⟨b, off + j * 6 + 1, none⟩ = some (.int .i64 l[j].o) ∧ w.cell? ⟨b, off + j * 6 + 2, none⟩ = some (.int .i64 l[j].l) ∧ w.cell? ⟨b, off + j * 6 + 3, none⟩ = some (.int .i64 l[j].c) ∧
    w.cell? ⟨b, off + j * 6 + 4, none⟩ = some (.string l[j].t) ∧ w.cell? ⟨b, off + j * 6 + 5, none⟩ = some (.int .i64 l[j].i) ∧ l[j].ok := by
  obtain ⟨a', c', e, _, hc⟩ := h
  cases e
  obtain ⟨b, off, e, hb, h0, h1⟩ := hc j hj
  exact ⟨b, off, e, hb, h0 0 _ rfl, h0 1 _ rfl, h0 2 _ rfl, h0 3 _ rfl, h0 4 _ rfl, h0 5 _ rfl, h1⟩

/-- The texts, one blank between each two. -/
def jnF : Bool → List Tkn → List UInt8
  | _, [] => []
  | first, t :: r => (bif first then [] else [32]) ++ wrT t ++ jnF false r
def jn (l : List Tkn) : List UInt8 := jnF true l
/-- Each is one that Scan can give, and an end stands last alone. -/
def okJ : List Tkn → Bool
  | [] => true
  | t :: r => (spOK t && !(t.kind == 0 && !r.isEmpty)) && okJ r
theorem jnF_snoc (t : Tkn) : ∀ (l : List Tkn) (b : Bool), jnF b (l ++ [t]) = jnF b l ++ (bif (b && l.isEmpty) then [] else [32]) ++ wrT t
  | [], b => by cases b <;> simp [jnF]
  | x :: l, b => by
    rw [List.cons_append, jnF, jnF_snoc t l false, jnF]
    simp [List.append_assoc]
theorem jn_snoc (l : List Tkn) (t : Tkn) (h : l ≠ []) : jn (l ++ [t]) = jn l ++ 32 :: wrT t := by
  unfold jn
  rw [jnF_snoc]
  have : l.isEmpty = false := by simpa using h
  rw [this]
  simp
theorem jn_one (t : Tkn) : jn [t] = wrT t := by simp [jn, jnF]
theorem okJ_drop : ∀ (l : List Tkn) (j : Nat) (h : j < l.length), okJ l = true → (spOK l[j] = true ∧ (l[j].kind = 0 → j + 1 = l.length))
  | [], j, h, _ => absurd h (by simp)
  | t :: r, 0, _, hk => by
    rw [okJ] at hk
    simp only [Bool.and_eq_true] at hk
    refine ⟨hk.1.1, fun h0 => ?_⟩
    have h0 : t.kind = 0 := h0
    have := hk.1.2
    rw [h0] at this
    simp at this
    simp [this]
  | t :: r, j + 1, h, hk => by
    rw [okJ] at hk
    simp only [Bool.and_eq_true] at hk
    obtain ⟨h1, h2⟩ := okJ_drop r j (by simpa using h) hk.2
    exact ⟨h1, fun h0 => by have := h2 h0; simp; exact this⟩
theorem okJ_bad (l : List Tkn) (j : Nat) (h : j < l.length) (hb : spOK l[j] = false ∨ (l[j].kind = 0 ∧ j + 1 < l.length)) : okJ l = false := by
  cases hk : okJ l with
  | false => rfl
  | true =>
    obtain ⟨h1, h2⟩ := okJ_drop l j h hk
    rcases hb with hb | hb
    · rw [hb] at h1; cases h1
    · have := h2 hb.1; omega
theorem okJ_all : ∀ (l : List Tkn), (∀ j (h : j < l.length), spOK l[j] = true ∧ (l[j].kind = 0 → j + 1 = l.length)) → okJ l = true
  | [], _ => rfl
  | t :: r, h => by
    rw [okJ, okJ_all r (fun j hj => by have := h (j + 1) (by simpa using hj); simp at this; exact this), Bool.and_true]
    obtain ⟨h1, h2⟩ := h 0 (by simp)
    have h1 : spOK t = true := h1
    have h2 : t.kind = 0 → 0 + 1 = (t :: r).length := h2
    rw [h1, Bool.true_and]
    by_cases h0 : t.kind = 0
    · have := h2 h0
      simp at this
      rw [this]
      simp
    · simp [h0]
theorem jn_len (l : List Tq) (hl : ∀ x ∈ l, x.ok) : (jn (l.map Tq.tk)).length ≤ l.length * 1048600 := by
  have : ∀ (m : List Tq) (b : Bool), (∀ x ∈ m, x.ok) → (jnF b (m.map Tq.tk)).length ≤ m.length * 1048600 := by
    intro m
    induction m with
    | nil => intro b _; simp [jnF]
    | cons x r ih =>
      intro b h
      have h1 := ih false (fun y hy => h y (by simp [hy]))
      have h2 := wrT_len x (h x (by simp))
      have h3 := (h x (by simp)).t
      rw [List.map_cons, jnF, List.length_append, List.length_append, List.length_cons]
      have h4 : (bif b then ([] : List UInt8) else [32]).length ≤ 1 := by cases b <;> simp
      omega
  exact this l true hl
theorem bld_below {b : Nat} {l : List UInt8} {W W' : World} (h : Bld b l W) (hb : Below W.heap.size W W') : Bld b l W' := bld_own (B := 0) (A := 0) h (grown_below hb) (fun r e => by cases e)

set_option maxRecDepth 100000 in
set_option maxHeartbeats 4000000 in
theorem join_k (l : List Tq) (sl : Value) (w : World) (hT : KT w) (hi : TqAt w w.heap.size sl l) :
    Calls Tryd.prog 13 #[sl] w fun e w' => e = .returned (.tuple #[.string (bif okJ (l.map Tq.tk) then str (jn (l.map Tq.tk)) else ⟨#[]⟩), .int .i64 (bif okJ (l.map Tq.tk) then 0 else 2)]) ∧ Below w.heap.size w w' := by
  have HI := hide hi
  have HT := hide hT
  obtain ⟨a, cp, rfl, hlen⟩ := hi.len
  have hok : ∀ x ∈ l, x.ok := fun x hx => by
    obtain ⟨j, hj, e⟩ := List.getElem_of_mem hx
    obtain ⟨_, _, _, _, _, _, _, _, _, _, k⟩ := hi.item j hj
    rw [← e]
    exact k
  have HOK := hide hok
  clear hi hT hok
  go_enter Tryd.func13, Tryd.ntmps13
  go_wp2
  go_loopw [11] (fun v wr => ∃ j : Nat, v = .int .i64 (j : Int) ∧ j ≤ l.length ∧ Hid ((∀ i (h : i < l.length), i < j → spOK l[i].tk = true ∧ (l[i].tk.kind = 0 → i + 1 = l.length)) ∧ Bld w.heap.size (jn ((l.take j).map Tq.tk)) wr) ∧ Below w.heap.size w wr)
    (fun v _ => l.length - (Lib.intOf v).toNat)
  case atStart => exact ⟨0, rfl, Nat.zero_le _, hide ⟨fun i _ h => absurd h (by omega), by have := Lib.IsBuilderF.of (Lib.fresh_isBuilder 66 5 w); exact this⟩, kalloc (Below.refl _ _) _⟩
  case round =>
    obtain ⟨j, rfl, hj, HM, hbel⟩ := hrel
    by_cases hlt : j < l.length
    · obtain ⟨b, off, rfl, hbb, p0, p1, p2, p3, p4, p5, hxk⟩ := (HI.out.below hbel).item j hlt
      have hbl := HM.out.2
      have hblt := hbl.lt
      have hjl := jn_len (l.take j) (fun x hx => HOK.out x (List.mem_of_mem_take hx))
      have hwl := wrT_len l[j] hxk
      have hxt := hxk.t
      have htk : l.take (j + 1) = l.take j ++ [l[j]] := (List.take_succ_eq_append_getElem hlt)
      have hnext : jn ((l.take (j + 1)).map Tq.tk) = (bif j == 0 then jn ((l.take j).map Tq.tk) else jn ((l.take j).map Tq.tk) ++ [32]) ++ wrT l[j].tk := by
        rw [htk, List.map_append, List.map_cons, List.map_nil]
        cases j with
        | zero => simp [jn, jnF]
        | succ j =>
          rw [jn_snoc _ _ (by intro e; have := congrArg List.length e; rw [List.length_map, List.length_take, List.length_nil] at this; omega)]
          simp
      have hbad : spOK l[j].tk = false ∨ (l[j].tk.kind = 0 ∧ j + 1 < l.length) → okJ (l.map Tq.tk) = false := fun h => okJ_bad _ j (by simpa using hlt) (by simpa using h)
      have hgood : spOK l[j].tk = true → (l[j].tk.kind = 0 → j + 1 = l.length) → (∀ i (h : i < l.length), i < j + 1 → spOK l[i].tk = true ∧ (l[i].tk.kind = 0 → i + 1 = l.length)) := fun h1 h2 i hi hij => by
        by_cases e : i = j
        · subst e
          exact ⟨h1, h2⟩
        · exact HM.out.1 i hi (by omega)
      have hlj : (jn ((l.take j).map Tq.tk)).length ≤ 1099536793600 := by
        rw [List.length_take] at hjl
        have : min j l.length * 1048600 ≤ 1048576 * 1048600 := Nat.mul_le_mul_right _ (by omega)
        omega
      have HS := hide (fun (U : World) (h : KT U) => spell_k l[j] hxk U h)
      have HB := hide hbel
      have HL := hide hbl
      have HBAD := hide hbad
      have HGOOD := hide hgood
      have HNEXT := hide hnext
      have ekd : l[j].tk.kind = l[j].k := rfl
      rw [ekd] at HBAD HGOOD
      clear hbad hgood hnext hbl hbel htk hjl hxk ekd HOK
      have hz : w.heap.size ≤ wr.heap.size := by omega
      generalize jn ((l.take j).map Tq.tk) = acc at *
      generalize spOK l[j].tk = sp at *
      generalize wrT l[j].tk = wt at *
      obtain ⟨wt', hwt⟩ : ∃ s, str wt = s := ⟨_, rfl⟩
      rw [hwt] at HS
      have HWT := hide hwt
      clear hwt
      generalize l[j] = x at *
      obtain ⟨k, o, ln, c, t, i⟩ := x
      dsimp only at *
      obtain ⟨W1, hW1⟩ : ∃ W1, wr.alloc (.cells (tcells k o ln c t i) 35) = W1 := ⟨_, rfl⟩
      have e1 : W1.heap[wr.heap.size]? = some (.cells (tcells k o ln c t i) 35 (0, 0)) := by rw [← hW1]; exact World.alloc_heap_new wr _
      have bW1 : Below wr.heap.size wr W1 := by rw [← hW1]; exact kalloc (Below.refl _ _) _
      have hz1 : wr.heap.size < W1.heap.size := (Array.getElem?_eq_some_iff.1 e1).1
      have x0 := kcells_at e1 0 _ rfl
      have x1 := kcells_at e1 1 _ rfl
      have x2 := kcells_at e1 2 _ rfl
      have x3 := kcells_at e1 3 _ rfl
      have x4 := kcells_at e1 4 _ rfl
      have x5 := kcells_at e1 5 _ rfl
      have HE := hide e1
      have HBW := hide bW1
      clear e1 bW1
      cases sp with
      | false =>
        have HO := hide (HBAD.out (.inl rfl))
        simp only [cond_false] at HS
        go_wp2_with (go_at_call 11; refine (HS.out _ (KT.below (KT.below HT.out HB.out) HBW.out)).mono ?_; clear HS; rintro e w2 ⟨rfl, b2⟩; have B2 := hide (ktrans HBW.out b2); have g2 := (b2.block _ hz1).trans HE.out; have y0 := kcells_at g2 0 _ rfl; clear b2 g2)
        go_ret2
        refine ⟨?_, ktrans HB.out B2.out⟩
        rw [HO.out]
        rfl
      | true =>
        simp only [cond_true] at HS
        by_cases hk0 : k = 0
        · subst hk0
          by_cases hjl : j + 1 < l.length
          · have HO := hide (HBAD.out (.inr ⟨rfl, hjl⟩))
            have hcmp : (j : Int) < (l.length : Int) - 1 := by omega
            go_wp2_with (go_at_call 11; refine (HS.out _ (KT.below (KT.below HT.out HB.out) HBW.out)).mono ?_; clear HS; rintro e w2 ⟨rfl, b2⟩; have B2 := hide (ktrans HBW.out b2); have g2 := (b2.block _ hz1).trans HE.out; have y0 := kcells_at g2 0 _ rfl; clear b2 g2)
            go_ret2
            refine ⟨?_, ktrans HB.out B2.out⟩
            rw [HO.out]
            rfl
          · have HG := hide (HGOOD.out rfl (fun _ => by omega))
            have hcmp : ¬ (j : Int) < (l.length : Int) - 1 := by omega
            cases j with
            | zero =>
              simp only [beq_self_eq_true, cond_true] at HNEXT
              simp only [Nat.zero_mul, Nat.add_zero] at p0 p1 p2 p3 p4 p5
              go_wp2_with (first
                | (go_at_call 11; refine (HS.out _ (KT.below (KT.below HT.out HB.out) HBW.out)).mono ?_; clear HS; rintro e w2 ⟨rfl, b2⟩; have B2 := hide (ktrans HBW.out b2); have g2 := (b2.block _ hz1).trans HE.out; have y0 := kcells_at g2 0 _ rfl; have L2 := hide (bld_below HL.out B2.out); clear b2 g2)
                | (go_at_call 26; refine (wStr w.heap.size _ wt _ HWT.out.symm _ L2.out (by omega)).mono ?_; rintro e w4 ⟨⟨v4, rfl⟩, p4⟩; have P4 := hide p4; clear p4))
              go_roundw
              case rel => exact ⟨1, rfl, by omega, hide ⟨HG.out, by rw [HNEXT.out]; exact P4.out.1⟩, (ktrans HB.out B2.out).trans P4.out.2.1⟩
              case measure =>
                simp [Lib.intOf]
                omega
            | succ j =>
              have hgt : (0 : Int) < ((j + 1 : Nat) : Int) := by omega
              have e0 : ((j + 1) == 0) = false := by simp
              rw [e0, cond_false] at HNEXT
              clear e0
              go_wp2_with (first
                | (go_at_call 11; refine (HS.out _ (KT.below (KT.below HT.out HB.out) HBW.out)).mono ?_; clear HS; rintro e w2 ⟨rfl, b2⟩; have B2 := hide (ktrans HBW.out b2); have g2 := (b2.block _ hz1).trans HE.out; have y0 := kcells_at g2 0 _ rfl; have L2 := hide (bld_below HL.out B2.out); clear b2 g2)
                | (go_at_call 25; refine (wByte w.heap.size _ 32 32 rfl _ L2.out (by omega)).mono ?_; rintro e w3 ⟨rfl, p3⟩; have P3 := hide p3; clear p3)
                | (go_at_call 26; refine (wStr w.heap.size _ wt _ HWT.out.symm _ P3.out.1 (by simp; omega)).mono ?_; rintro e w4 ⟨⟨v4, rfl⟩, p4⟩; have P4 := hide p4; clear p4))
              go_roundw
              case rel => exact ⟨j + 2, by simp; omega, by omega, hide ⟨HG.out, by rw [HNEXT.out]; exact P4.out.1⟩, ((ktrans HB.out B2.out).trans P3.out.2.1).trans P4.out.2.1⟩
              case measure =>
                simp [Lib.intOf]
                omega
        · have hk2 : (k == 0) = false := by simpa using hk0
          have HG := hide (HGOOD.out rfl (fun h => absurd h hk0))
          clear hk0
          cases j with
          | zero =>
            simp only [beq_self_eq_true, cond_true] at HNEXT
            simp only [Nat.zero_mul, Nat.add_zero] at p0 p1 p2 p3 p4 p5
            go_wp2_with (first
              | (go_at_call 11; refine (HS.out _ (KT.below (KT.below HT.out HB.out) HBW.out)).mono ?_; clear HS; rintro e w2 ⟨rfl, b2⟩; have B2 := hide (ktrans HBW.out b2); have g2 := (b2.block _ hz1).trans HE.out; have y0 := kcells_at g2 0 _ rfl; have L2 := hide (bld_below HL.out B2.out); clear b2 g2)
              | (go_at_call 26; refine (wStr w.heap.size _ wt _ HWT.out.symm _ L2.out (by omega)).mono ?_; rintro e w4 ⟨⟨v4, rfl⟩, p4⟩; have P4 := hide p4; clear p4))
            go_roundw
            case rel => exact ⟨1, rfl, by omega, hide ⟨HG.out, by rw [HNEXT.out]; exact P4.out.1⟩, (ktrans HB.out B2.out).trans P4.out.2.1⟩
            case measure =>
              simp [Lib.intOf]
              omega
          | succ j =>
            have hgt : (0 : Int) < ((j + 1 : Nat) : Int) := by omega
            have e0 : ((j + 1) == 0) = false := by simp
            rw [e0, cond_false] at HNEXT
            clear e0
            go_wp2_with (first
              | (go_at_call 11; refine (HS.out _ (KT.below (KT.below HT.out HB.out) HBW.out)).mono ?_; clear HS; rintro e w2 ⟨rfl, b2⟩; have B2 := hide (ktrans HBW.out b2); have g2 := (b2.block _ hz1).trans HE.out; have y0 := kcells_at g2 0 _ rfl; have L2 := hide (bld_below HL.out B2.out); clear b2 g2)
              | (go_at_call 25; refine (wByte w.heap.size _ 32 32 rfl _ L2.out (by omega)).mono ?_; rintro e w3 ⟨rfl, p3⟩; have P3 := hide p3; clear p3)
              | (go_at_call 26; refine (wStr w.heap.size _ wt _ HWT.out.symm _ P3.out.1 (by simp; omega)).mono ?_; rintro e w4 ⟨⟨v4, rfl⟩, p4⟩; have P4 := hide p4; clear p4))
            go_roundw
            case rel => exact ⟨j + 2, by simp; omega, by omega, hide ⟨HG.out, by rw [HNEXT.out]; exact P4.out.1⟩, ((ktrans HB.out B2.out).trans P3.out.2.1).trans P4.out.2.1⟩
            case measure =>
              simp [Lib.intOf]
              omega
    · have hj2 : j = l.length := by omega
      subst hj2
      have hA : okJ (l.map Tq.tk) = true := okJ_all _ (fun i hi => by have := HM.out.1 i (by simpa using hi) (by simpa using hi); simpa using this)
      have HL := hide HM.out.2
      rw [List.take_length] at HL
      have HA := hide hA
      clear hA
      have HE2 := hide (wEnd w.heap.size _ wr HL.out)
      go_wp2_with (go_at_call 27; refine HE2.out.mono ?_; clear HE2; rintro e w2 ⟨rfl, b2⟩; have B2 := hide b2; clear b2)
      go_ret2
      refine ⟨?_, hbel.trans B2.out⟩
      rw [HA.out]
      rfl
end Go.Proofs.YthpkjehoogodkaaDoor
