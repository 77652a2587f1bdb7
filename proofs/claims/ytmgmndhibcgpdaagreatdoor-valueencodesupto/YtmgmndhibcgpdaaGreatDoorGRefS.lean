/- The reference's laid: a Gaussian number. -/
import Derived.Test.YtmgmndhibcgpdaaGreatDoorGRefE
import Derived.Test.YtmgmndhibcgpdaaGreatDoorZVDecW
import Derived.Test.YtmgmndhibcgpdaaGreatDoorZVMake
import Derived.Test.YtmgmndhibcgpdaaGreatDoorZVCompare
import Derived.Lib.AppendStr
namespace Go.Proofs.YtmgmndhibcgpdaaGreatDoor
open Go.RowKit Go.Lib

set_option maxRecDepth 100000 in
set_option maxHeartbeats 1000000 in
theorem laid_gauss (i m : Int) (t : ByteArray) (l : List Vl) (a : Option Addr) (c : Nat) (w : World) (hok : (⟨3, i, m, t, l⟩ : Vl).ok) :
    Calls Tryz.prog 57 #[.agg (vcells ⟨3, i, m, t, l⟩ (.slice a l.length c))] w fun e w' => ∃ r, e = .returned r ∧ LaidAt w w' r (encV ⟨3, i, m, t, l⟩) := by
  obtain ⟨W, hW⟩ : ∃ W, w.alloc (.cells (vcells ⟨3, i, m, t, l⟩ (.slice a l.length c)) 25) = W := ⟨_, rfl⟩
  have bW : Below w.heap.size w W := by rw [← hW]; exact alloc_v (Below.refl _ _) _
  have e1 : W.heap[w.heap.size]? = some (.cells (vcells ⟨3, i, m, t, l⟩ (.slice a l.length c)) 25 (0, 0)) := by rw [← hW]; exact World.alloc_heap_new w _
  have zW : w.heap.size < W.heap.size := (Array.getElem?_eq_some_iff.1 e1).1
  have x0 := cells_at e1 0 _ rfl
  have hN := owns_new W (UInt8.ofNat 3) 3 rfl
  obtain ⟨W1, hW1⟩ : ∃ W1, W.alloc (.cells #[.int .u8 3] 5) = W1 := ⟨_, rfl⟩
  have FIN := hide (fun (U : World) (r : Value) (bs : List UInt8) (h : RowB W1 W.heap.size (some W.heap.size) U r bs) => (laid_end bW (hW1.symm ▸ h) : LaidAt w U r bs))
  rw [hW1] at hN
  have RW : RowB W1 W.heap.size (some W.heap.size) W1 (.slice (some ⟨W.heap.size, 0, none⟩) 1 1) [UInt8.ofNat 3] := RowB.start hN
  have zW1 : W.heap.size < W1.heap.size := by rw [← hW1, World.size_alloc]; omega
  have HB := hide (fun (U : World) (g : W1.grownBy U (some W.heap.size)) => (g.block w.heap.size (by omega) (by simp; omega)).trans ((show W1.heap[w.heap.size]? = W.heap[w.heap.size]? by rw [← hW1]; exact Below.heap_alloc _ _ _ zW).trans e1))
  have HE := hide (encV_eq ⟨3, i, m, t, l⟩)
  simp only at HE
  obtain ⟨ok1, ⟨ok2, ok3⟩, ok4, ok5⟩ := hok
  simp only at ok1 ok2 ok3 ok4 ok5
  have b1 := HB.out W1 (grown_self _ _)
  have y0 := cells_at b1 0 _ rfl
  have y1 := cells_at b1 1 _ rfl
  have y2 := cells_at b1 2 _ rfl
  have y3 := cells_at b1 3 _ rfl
  have y4 := cells_at b1 4 _ rfl
  have HZ := hide (refZig_k i ok2 ok3)
  have HZ2 := hide (refZig_k m ok4 ok5)
  have HV := hide (fun w : World => refUv_k (zz i) (zz_lt i ok2 ok3) w)
  have HV2 := hide (fun w : World => refUv_k (zz m) (zz_lt m ok4 ok5) w)
  have HLN := hide (uvarint_length 9 (zz i) (by have := zz_lt i ok2 ok3; omega))
  have HLN2 := hide (uvarint_length 9 (zz m) (by have := zz_lt m ok4 ok5; omega))
  have HPOS := hide (show 0 < (uvarint (zz m)).length from uvarint_pos _)
  obtain ⟨V, hV⟩ : ∃ V, W1.drew = V := ⟨_, rfl⟩
  have bV : Below W1.heap.size W1 V := by rw [← hV]; exact below_drawn W1
  have R0 := RW.below bV
  have z1 := cells_at (HB.out V R0.gr) 1 _ rfl
  have z2 := cells_at (HB.out V R0.gr) 2 _ rfl
  have HP := hide (fun (w2 : World) (u : Value) (hu : w2.ownsRow V.heap.size 5 1 u (uvarint (zz i)).length (cellsOf (uvarint (zz i)))) (hb : Below V.heap.size V w2) => (show (RowB W1 W.heap.size (some W.heap.size) w2 _ _) ∧ _ from ⟨R0.below hb, R0.pushRow (by omega) hu hb (uvarint_pos _) (by have := HLN.out; simp; omega) 45⟩))
  clear e1 b1 hN R0 RW bV
  go_enter Tryz.func57, Tryz.ntmps57
  go_wp2
  go_region_law
    (first
      | ((go_simp; (try rw [hV]); go_at_call 99; (first | with_reducible refine (HZ.out _).mono ?_ | with_reducible refine (HZ2.out _).mono ?_); rintro e wq ⟨rfl, rfl⟩))
      | ((go_simp; (try rw [hV]); go_at_call 98; with_reducible refine (HV.out _).mono ?_; rintro e w2 ⟨u, rfl, A1, A2⟩; obtain ⟨R2, v3, w3, hrun, R3⟩ := HP.out _ _ A1 A2; have k2 := cells_at (HB.out w2 R2.gr) 2 _ rfl; have k3 := cells_at (HB.out w3 R3.gr) 2 _ rfl; have HRN := hide hrun; have HR3 := hide R3; clear hrun R3 A1 A2 HP R2))
      | ((refine step_runV _ (by rfl) (.tmp 29) (.tmp 33) 45 (by rfl) _ _ (by rfl) (by rfl) _ w3 HRN.out ?_))
      | ((go_simp; go_at_call 98; with_reducible refine (HV2.out _).mono ?_; rintro e w4 ⟨u4, rfl, A3, A4⟩; obtain ⟨v5, w5, hrun, R5⟩ := HR3.out.pushRow (by omega) A3 A4 HPOS.out (by have := HLN.out; have := HLN2.out; simp; omega) 45; have HR5 := hide hrun; have HR := hide (FIN.out _ _ _ R5); clear hrun R5 A3 A4))
      | ((refine step_runV _ (by rfl) (.tmp 34) (.tmp 38) 45 (by rfl) _ _ (by rfl) (by rfl) _ w5 HR5.out ?_)))
  all_goals
    go_wp2
    go_ret
    refine ⟨v5, rfl, ?_⟩
    rw [HE.out]
    simpa using HR.out
end Go.Proofs.YtmgmndhibcgpdaaGreatDoor

/- Encode and Print of a value, where only a right value's bytes and text are bounded; how long these are. -/
namespace Go.Proofs.YtmgmndhibcgpdaaGreatDoor
open Go.RowKit
open Go.Lib (uvarint uvarint_pos uvarint_length64)

theorem right_size {v : Vl} (h : rightV v = true) : v.size ≤ 4096 := by
  have := right_doc v
  rw [h, Bool.and_eq_true, decide_eq_true_eq] at this
  have h2 := ((cnt_is 16 v 0).1.1 this.1).1
  omega
theorem zz_len {i : Int} (h0 : -9223372036854775808 ≤ i) (h1 : i ≤ 9223372036854775807) : (uvarint (zz i)).length ≤ 10 := uvarint_length64 (by have := zz_lt i h0 h1; omega)
theorem flat_sum {l : List Vl} {f : Vl → List UInt8} {c : Nat} (h : ∀ x ∈ l, (f x).length ≤ x.size * c) : ((l.map f).flatten).length ≤ (l.map Vl.size).sum * c := by
  induction l with
  | nil => simp
  | cons x l ih =>
    have h1 := h x (by simp)
    have h2 := ih fun y hy => h y (by simp [hy])
    simp only [List.map_cons, List.flatten_cons, List.length_append, List.sum_cons, Nat.add_mul]
    omega
set_option maxRecDepth 100000 in
theorem enc_len : ∀ (n : Nat) (v : Vl) (w : World) (B : Nat) (sl : Value), ItemsAt w B n sl v.items → v.ok → (encV v).length ≤ v.size * 1048700
  | 0, _, _, _, _, h, _ => h.elim
  | n + 1, v, w, B, sl, h, hok => by
    obtain ⟨a, c, rfl, hla⟩ := h.len
    have hit : ∀ x ∈ v.items, (encV x).length ≤ x.size * 1048700 := fun x hx => by
      obtain ⟨j, hj, rfl⟩ := List.getElem_of_mem hx
      obtain ⟨b, o, s, _, _, _, _, _, _, _, h5, h6⟩ := h.item j hj
      exact enc_len n _ w B s h5 h6
    have hf := flat_sum hit
    have hu : (uvarint v.items.length).length ≤ 10 := uvarint_length64 (by unfold maxLen at hla; omega)
    have z1 := zz_len hok.2.1.1 hok.2.1.2
    have z2 := zz_len hok.2.2.1 hok.2.2.2
    have ht : (txt v.text).length ≤ 10 + 1048576 := by
      unfold txt
      rw [List.length_append, size_eq]
      have : (uvarint v.text.size).length ≤ 10 := uvarint_length64 (by have := hok.1; omega)
      have := hok.1
      omega
    obtain ⟨S, hS⟩ : ∃ S, (v.items.map Vl.size).sum * 1048700 = S := ⟨_, rfl⟩
    rw [hS] at hf
    have hsz : v.size * 1048700 = S + 1048700 := by rw [Vl.size_eq, Nat.add_mul, hS, Nat.one_mul]
    rw [hsz, encV_eq, List.length_cons]
    clear hsz hS
    split
    · simp
    · split
      · omega
      · split
        · rw [List.length_append]; omega
        · split
          · omega
          · rw [List.length_append]; omega
theorem enc_short {n : Nat} {v : Vl} {w : World} {B : Nat} {sl : Value} (h : ItemsAt w B n sl v.items) (hok : v.ok) (hr : rightV v = true) : (encV v).length ≤ 1000000000000 := by
  have h1 := enc_len n v w B sl h hok
  have h2 := right_size hr
  have h3 := Nat.mul_le_mul_right 1048700 h2
  omega
set_option maxRecDepth 100000 in
theorem encodeC_k (v : Vl) (w : World) (n : Nat) (sl : Value) (hT : Tabs w) (hok : v.ok) (hz : v.size ≤ 1000000000) (hs : ItemsAt w w.heap.size n sl v.items) :
    Calls Tryz.prog 23 #[.agg (vcells v sl)] w fun e w' => ∃ bv, e = .returned (.tuple #[bv, .int .i64 (bif rightV v then 0 else 40)]) ∧ RowB w w.heap.size none w' bv (bif rightV v then encV v else []) := by
  have hl := enc_short hs hok
  obtain ⟨W, hW⟩ : ∃ W, w.alloc (.cells (vcells v sl) 25) = W := ⟨_, rfl⟩
  have bW : Below w.heap.size w W := by rw [← hW]; exact alloc_v (Below.refl _ _) _
  have e1 : W.heap[w.heap.size]? = some (.cells (vcells v sl) 25 (0, 0)) := by rw [← hW]; exact World.alloc_heap_new w _
  have x0 := cells_at e1 0 _ rfl
  have x1 := cells_at e1 1 _ rfl
  have x2 := cells_at e1 2 _ rfl
  have x3 := cells_at e1 3 _ rfl
  have x4 := cells_at e1 4 _ rfl
  have zW : w.heap.size < W.heap.size := (Array.getElem?_eq_some_iff.1 e1).1
  have HR := hide (right_k v W n sl (hT.below bW) hok.1 ((hs.below bW).up bW.size))
  have HE := hide (fun (h : rightV v = true) (U : World) (b : Below W.heap.size W U) => enc_k n v U w.heap.size w.heap.size sl (.slice none 0 0) [] (form_right h) hok hz (Nat.le_refl _) (trans_v bW b).size (hs.below (trans_v bW b)) (World.ownsRow_nil _ _ _ _) (by simpa using hl h))
  obtain ⟨a, c, rfl, _⟩ := hs.len
  clear hs e1 hT
  cases hx : rightV v
  · rw [hx] at HR
    go_enter Tryz.func23, Tryz.ntmps23
    go_wp2_with (go_at_call 51; refine HR.out.mono ?_; clear HR; rintro e w2 ⟨rfl, b2⟩)
    go_ret2
    exact ⟨_, rfl, RowB.below (rowNil w) (trans_v bW b2)⟩
  · rw [hx] at HR
    have HE := hide (HE.out hx)
    clear hx
    go_enter Tryz.func23, Tryz.ntmps23
    go_wp2_with (first
      | (go_at_call 51; refine HR.out.mono ?_; clear HR; rintro e w2 ⟨rfl, b2⟩; have hc := (bcellV b2).1)
      | (go_at_call 56; refine (HE.out _ b2).mono ?_; clear HE; rintro e w3 ⟨bv, rfl, r3⟩))
    go_ret2
    exact ⟨_, rfl, RowB.more (RowB.below (rowNil w) (trans_v bW b2)) r3⟩
end Go.Proofs.YtmgmndhibcgpdaaGreatDoor

/- The reference's laid: a symbol; then all kinds; Encode. -/
namespace Go.Proofs.YtmgmndhibcgpdaaGreatDoor
open Go.RowKit Go.Lib

/-- An append of a string that is run at a step of a region that draws its order. -/
theorem step_runS {P : Program} (w : World) {ops : Array Oper} {o : Oper} {a : Act} {K : Act → World → Prop} {Q : Exit → Act → World → Prop} {E : Prop} (hgd : o.guard = none) (s x : Operand) (t u : TypeId)
    (ho : o.op = .call { callee := .builtin .append, args := #[s, x], argTypes := #[t, u] }) (vs vx : Value) (hs : a.eval s = vs) (hx : a.eval x = vx) (v' : Value) (w' : World)
    (hr : (Builtin.append_ #[t, u] o.type #[vs, vx]).run P w = .ok v' w') (h : K (a.put o.dst v') w') :
    if Region.wanted o (yielded ops a.tmps) = true then Oper.wp P o a w K Q else E := by
  have hw : Region.wanted o (yielded ops a.tmps) = true := by simp [Region.wanted, hgd]
  rw [if_pos hw]
  unfold Oper.wp execOp
  simp only [ho, resolve, invoke, builtin, Sem.run_bind, Sem.run_pure, Result.andThen_ok, List.map_toArray, List.map_cons, List.map_nil, hs, hx, hr]
  exact h
/-- A text is laid behind. -/
theorem RowB.pushStr {X w : World} {L : Nat} {g0 : Option Nat} {v : Value} {bs : List UInt8} (h : RowB X L g0 w v bs) (hL : L ≤ X.heap.size) (t : ByteArray) (hl : bs.length + t.size ≤ 1000000000000) (ty : TypeId) :
    ∃ v' w', (Builtin.append_ #[45, 9] ty #[v, .string t]).run Tryz.prog w = .ok v' w' ∧ w'.ownsRow L 5 1 v' (bs ++ t.data.toList).length (cellsOf (bs ++ t.data.toList)) ∧ X.grownBy w' g0 := by
  obtain ⟨i0, hi, hz0, hz1, hz2⟩ := info_parts info_u8
  have hz := h.gr.size
  obtain ⟨v', w', hrun, A1, A2, _⟩ := run_append_own_string (P := Tryz.prog) w L 45 9 ty 5 i0 Tryz.underlying45 Tryz.underlying9 hi hz0 hz1 hz2 v bs.length (cellsOf bs) h.row t (by unfold maxLen; omega) (by omega) (by omega)
  refine ⟨v', w', hrun, ?_, ⟨A2.os.trans h.gr.os, A2.tape.trans h.gr.tape, A2.output.trans h.gr.output, Nat.le_trans hz A2.size, fun j hj hne => ?_⟩⟩
  · rw [List.length_append, show cellsOf (bs ++ t.data.toList) = cellsOf bs ++ cellsOf t.data.toList from List.map_append, size_eq, ← strCells_eq]
    exact A1
  · refine (A2.block j (by omega) (fun e => ?_)).trans (h.gr.block j hj hne)
    rcases h.own with o | o
    · exact hne (e.trans o)
    · have := o j e.symm
      omega
theorem laid_endS {w W U : World} {o : Obj} {r : Value} {bs : List UInt8} (bW : Below w.heap.size w W) (h1 : U.ownsRow W.heap.size 5 1 r bs.length (cellsOf bs)) (h2 : (W.alloc o).grownBy U (some W.heap.size)) : LaidAt w U r bs :=
  ⟨own_base h1 bW.size, (alloc_v bW o).grown h2 (by have := bW.size; simp; omega) (fun k hk => by have := bW.size; cases hk; omega)⟩
set_option maxRecDepth 100000 in
set_option maxHeartbeats 1000000 in
theorem laid_sym (i m : Int) (t : ByteArray) (l : List Vl) (a : Option Addr) (c : Nat) (w : World) (hok : (⟨4, i, m, t, l⟩ : Vl).ok) :
    Calls Tryz.prog 57 #[.agg (vcells ⟨4, i, m, t, l⟩ (.slice a l.length c))] w fun e w' => ∃ r, e = .returned r ∧ LaidAt w w' r (encV ⟨4, i, m, t, l⟩) := by
  obtain ⟨W, hW⟩ : ∃ W, w.alloc (.cells (vcells ⟨4, i, m, t, l⟩ (.slice a l.length c)) 25) = W := ⟨_, rfl⟩
  have bW : Below w.heap.size w W := by rw [← hW]; exact alloc_v (Below.refl _ _) _
  have e1 : W.heap[w.heap.size]? = some (.cells (vcells ⟨4, i, m, t, l⟩ (.slice a l.length c)) 25 (0, 0)) := by rw [← hW]; exact World.alloc_heap_new w _
  have zW : w.heap.size < W.heap.size := (Array.getElem?_eq_some_iff.1 e1).1
  have x0 := cells_at e1 0 _ rfl
  have hN := owns_new W (UInt8.ofNat 4) 4 rfl
  obtain ⟨W1, hW1⟩ : ∃ W1, W.alloc (.cells #[.int .u8 4] 5) = W1 := ⟨_, rfl⟩
  have FIN := hide (fun (U : World) (r : Value) (bs : List UInt8) (h1 : U.ownsRow W.heap.size 5 1 r bs.length (cellsOf bs)) (h2 : W1.grownBy U (some W.heap.size)) => (laid_endS bW h1 (hW1.symm ▸ h2) : LaidAt w U r bs))
  rw [hW1] at hN
  have RW : RowB W1 W.heap.size (some W.heap.size) W1 (.slice (some ⟨W.heap.size, 0, none⟩) 1 1) [UInt8.ofNat 4] := RowB.start hN
  have zW1 : W.heap.size < W1.heap.size := by rw [← hW1, World.size_alloc]; omega
  have HB := hide (fun (U : World) (g : W1.grownBy U (some W.heap.size)) => (g.block w.heap.size (by omega) (by simp; omega)).trans ((show W1.heap[w.heap.size]? = W.heap[w.heap.size]? by rw [← hW1]; exact Below.heap_alloc _ _ _ zW).trans e1))
  have HE := hide (encV_eq ⟨4, i, m, t, l⟩)
  simp only at HE
  obtain ⟨ok1, ⟨ok2, ok3⟩, ok4, ok5⟩ := hok
  simp only at ok1 ok2 ok3 ok4 ok5
  have b1 := HB.out W1 (grown_self _ _)
  have y0 := cells_at b1 0 _ rfl
  have y3 := cells_at b1 3 _ rfl
  have HV := hide (fun w : World => refUv_k t.size (by omega) w)
  have HLN := hide (uvarint_length 9 t.size (by omega))
  have hwr : IntKind.u64.wrap ((t.size : Nat) : Int) = ((t.size : Nat) : Int) := by rw [IntKind.wrap_u64]; omega
  obtain ⟨V, hV⟩ : ∃ V, W1.drew = V := ⟨_, rfl⟩
  have bV : Below W1.heap.size W1 V := by rw [← hV]; exact below_drawn W1
  have R0 := RW.below bV
  have z3 := cells_at (HB.out V R0.gr) 3 _ rfl
  have HP := hide (fun (w2 : World) (u : Value) (hu : w2.ownsRow V.heap.size 5 1 u (uvarint t.size).length (cellsOf (uvarint t.size))) (hb : Below V.heap.size V w2) => (show (RowB W1 W.heap.size (some W.heap.size) w2 _ _) ∧ _ from ⟨R0.below hb, R0.pushRow (by omega) hu hb (uvarint_pos _) (by have := HLN.out; simp; omega) 45⟩))
  have HS := hide (fun (w3 : World) (v3 : Value) (R3 : RowB W1 W.heap.size (some W.heap.size) w3 v3 ([UInt8.ofNat 4] ++ uvarint t.size)) => R3.pushStr (by omega) t (by have := HLN.out; simp; omega) 45)
  have HT : Hid ([UInt8.ofNat 4] ++ uvarint t.size ++ t.data.toList = encV ⟨4, i, m, t, l⟩) := hide (by rw [HE.out]; simp [txt])
  clear e1 b1 hN R0 RW bV HE
  go_enter Tryz.func57, Tryz.ntmps57
  go_wp2
  go_region_law
    (first
      | ((go_simp; (try rw [hV]); (try rw [hwr]); go_at_call 98; with_reducible refine (HV.out _).mono ?_; rintro e w2 ⟨u, rfl, A1, A2⟩; obtain ⟨R2, v3, w3, hrun, R3⟩ := HP.out _ _ A1 A2; have k2 := cells_at (HB.out w2 R2.gr) 3 _ rfl; have k3 := cells_at (HB.out w3 R3.gr) 3 _ rfl; obtain ⟨v5, w5, hrun5, O5, G5⟩ := HS.out _ _ R3; have HRN := hide hrun; have HR5 := hide hrun5; have HR := hide (FIN.out _ _ _ O5 G5); clear hrun R3 A1 A2 HP R2 hrun5 O5 G5))
      | ((refine step_runV _ (by rfl) (.tmp 42) (.tmp 47) 45 (by rfl) _ _ (by rfl) (by rfl) _ w3 HRN.out ?_))
      | ((refine step_runS _ (by rfl) (.tmp 48) (.tmp 50) 45 9 (by rfl) _ _ (by rfl) (by rfl) _ w5 HR5.out ?_)))
  all_goals
    go_wp2
    go_ret
    refine ⟨v5, rfl, ?_⟩
    rw [← HT.out]
    exact HR.out
theorem laid_k : ∀ n, LaidC n
  | 0 => fun _ _ _ _ _ _ _ _ h _ => h.elim
  | n + 1 => fun v w B sl hf hok hz hBw hi hn => by
    obtain ⟨⟨hu, hg⟩, hall⟩ := form_parts hf
    obtain ⟨a, c, rfl, _⟩ := hi.len
    have hsz : ∀ x ∈ v.items, x.size ≤ 1000000000 := fun x hx => by have := Vl.size_item hx; omega
    have hll : v.items.length ≤ 1000000000 := by have := size_len v; omega
    obtain ⟨k, i, m, t, l⟩ := v
    unfold goodB at hg
    simp only at *
    split at hg
    · rename_i h
      rcases h with rfl | rfl | rfl | rfl
      · exact laid_int i m t l a c w hok
      · exact laid_row5 (laid_k n) i m t l a c w hok hBw hi hall hsz hll hn
      · exact laid_row6 (laid_k n) i m t l a c w hok hBw hi hall hsz hll hn
      · exact laid_row7 (laid_k n) i m t l a c w hok hBw hi hall hsz hll hn
    · split at hg
      · rename_i h
        subst h
        exact laid_bool i m t l a c w hok (by simpa using hg)
      · split at hg
        · rename_i h
          subst h
          exact laid_sym i m t l a c w hok
        · split at hg
          · rename_i h
            subst h
            exact laid_gauss i m t l a c w hok
          · cases hg
set_option maxRecDepth 100000 in
theorem refEncode_k (v : Vl) (w : World) (n : Nat) (sl : Value) (hok : v.ok) (hz : v.size ≤ 1000000000) (hs : ItemsAt w w.heap.size n sl v.items) :
    Calls Tryz.prog 24 #[.agg (vcells v sl)] w fun e w' => ∃ bv, e = .returned (.tuple #[bv, .int .i64 (bif rightV v then 0 else 40)]) ∧ LaidAt w w' bv (bif rightV v then encV v else []) := by
  obtain ⟨W, hW⟩ : ∃ W, w.alloc (.cells (vcells v sl) 25) = W := ⟨_, rfl⟩
  have bW : Below w.heap.size w W := by rw [← hW]; exact alloc_v (Below.refl _ _) _
  have e1 : W.heap[w.heap.size]? = some (.cells (vcells v sl) 25 (0, 0)) := by rw [← hW]; exact World.alloc_heap_new w _
  have x0 := cells_at e1 0 _ rfl
  have x1 := cells_at e1 1 _ rfl
  have x2 := cells_at e1 2 _ rfl
  have x3 := cells_at e1 3 _ rfl
  have x4 := cells_at e1 4 _ rfl
  have zW : w.heap.size < W.heap.size := (Array.getElem?_eq_some_iff.1 e1).1
  have HR := hide (refRight_k v W n sl hok.1 ((hs.below bW).up bW.size))
  have HE := hide (fun (h : rightV v = true) (U : World) (b : Below W.heap.size W U) => laid_k n v U w.heap.size sl (form_right h) hok hz (trans_v bW b).size (hs.below (trans_v bW b)) (enc_short hs hok h))
  obtain ⟨a, c, rfl, _⟩ := hs.len
  clear hs e1
  cases hx : rightV v
  · rw [hx] at HR
    go_enter Tryz.func24, Tryz.ntmps24
    go_wp2_with (go_at_call 33; refine HR.out.mono ?_; clear HR; rintro e w2 ⟨rfl, b2⟩)
    go_ret2
    exact ⟨_, rfl, World.ownsRow_nil _ _ _ _, trans_v bW b2⟩
  · rw [hx] at HR
    have HE := hide (HE.out hx)
    clear hx
    go_enter Tryz.func24, Tryz.ntmps24
    go_wp2_with (first
      | (go_at_call 33; refine HR.out.mono ?_; clear HR; rintro e w2 ⟨rfl, b2⟩; have hc := (bcellV b2).1)
      | (go_at_call 57; refine (HE.out _ b2).mono ?_; clear HE; rintro e w3 ⟨bv, rfl, r3⟩))
    go_ret2
    exact ⟨_, rfl, own_base r3.1 (trans_v bW b2).size, trans_v (trans_v bW b2) r3.2⟩
end Go.Proofs.YtmgmndhibcgpdaaGreatDoor
