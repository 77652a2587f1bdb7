/- The document's quoting. -/
import Derived.Test.YtpbebcefnkbnlabDoorTQuoteBack
import Derived.Test.YtpbebcefnkbnlabDoorTRefCells
import Derived.Lib.AppendStr
import Derived.Deep.RegionLaw
import Derived.Laws.OwnMore
namespace Go.Proofs.YtpbebcefnkbnlabDoor
open Go.RowKit

theorem step_append_own {P : Program} {ops : Array Oper} {o : Oper} {a : Act} {w : World} {K : Act → World → Prop} {Q : Exit → Act → World → Prop} {E : Prop}
    (hg : o.guard = none) (s x : Operand) (t : TypeId) (hop : o.op = Op.call { callee := Callee.builtin Builtin.append, args := #[s, x], argTypes := #[t, t] })
    (base : Nat) (e : TypeId) (i : TypeInfo) (z : Value) (size bytes : Nat) (h1 : P.underlying t = some (.slice e)) (h2 : P.info? e = some i) (h3 : i.zero = some z) (h4 : i.size = size) (h5 : i.bytes = bytes) (h6 : z.cells.size = size) (h7 : 0 < size)
    (v : Value) (n : Nat) (xs : List Value) (hs : a.eval s = v) (hown : w.ownsRow base e size v n xs)
    (ad : Addr) (m c : Nat) (news : List Value) (hx : a.eval x = .slice (some ad) m c) (hn : news.length = m * size) (hc : ∀ j u, news[j]? = some u → w.cell? (ad.add j) = some u) (h1c : ∀ u ∈ news, u.oneCell' = true)
    (b1 : n + m ≤ maxLen) (b2 : (n + m) * bytes ≤ 140737488355328) (hbase : base ≤ w.heap.size)
    (hK : ∀ v' w', w'.ownsRow base e size v' (n + m) (xs ++ news) → w.grownBy w' v.ownBlock → K (a.put o.dst v') w') :
    if Region.wanted o (yielded ops a.tmps) = true then Oper.wp P o a w K Q else E := by
  have hw : Region.wanted o (yielded ops a.tmps) = true := by simp [Region.wanted, hg]
  rw [if_pos hw]
  obtain ⟨v', w', hrun, r1, r2, _⟩ := run_append_own (P := P) w base t o.type e i z size bytes h1 h2 h3 h4 h5 h6 h7 v n xs hown ad m c news hn hc h1c b1 b2 hbase
  unfold Oper.wp
  simp [execOp, hop, resolve, invoke, builtin, hs, hx, hrun, Result.andThen]
  exact hK v' w' r1 r2

/-- Where one is: at the rune number i, which begins at k. -/
def QAt (L : List UInt8) (i k : Nat) : Prop := (rs L).drop i = rsT k (ru (L.drop k)) ∧ k ≤ L.length
theorem QAt.start (L : List UInt8) : QAt L 0 0 := ⟨rfl, Nat.zero_le _⟩
theorem QAt.get {L : List UInt8} {i k : Nat} (h : QAt L i k) (hi : i < (rs L).length) : k < L.length ∧ (rs L)[i] = (rv (L.drop k), k, wd (L.drop k)) ∧ QAt L (i + 1) (k + wd (L.drop k)) := by
  have hd := h.1
  rw [List.drop_eq_getElem_cons hi] at hd
  have hne : L.drop k ≠ [] := by
    intro e
    rw [e, ru_nil, rsT] at hd
    cases hd
  have hw := wd_le _ hne
  rw [List.length_drop] at hw
  have hp := wd_pos (L.drop k)
  rw [ru_step _ hne, rsT] at hd
  obtain ⟨h1, h2⟩ := List.cons.inj hd
  rw [List.drop_drop] at h2
  exact ⟨by omega, h1, h2, by omega⟩
theorem QAt.done {L : List UInt8} {i k : Nat} (h : QAt L i k) (hi : ¬ i < (rs L).length) : L.drop k = [] := by
  have hd := h.1
  rw [List.drop_of_length_le (by omega)] at hd
  by_cases hn : L.drop k = []
  · exact hn
  · rw [ru_step _ hn, rsT] at hd
    cases hd
theorem fl_len : ∀ l : List UInt8, (fl l).length ≤ 4 * l.length := by
  refine ru_ind (by simp [fl_nil]) ?_
  intro l hl ih
  have hw := wd_le l hl
  have hp := wd_pos l
  have hpc : (pc l).length ≤ 4 * wd l := by
    unfold pc
    split
    · simp; omega
    · split
      · simp; omega
      · split
        · simp; omega
        · rw [List.length_take]; omega
  rw [fl_step l hl, List.length_append]
  rw [List.length_drop] at ih
  omega
def bc (l : List UInt8) : List Value := l.map fun b => .int .u8 (b.toNat : Int)
theorem bc_app (l m : List UInt8) : bc (l ++ m) = bc l ++ bc m := by simp [bc]
theorem bc_len (l : List UInt8) : (bc l).length = l.length := by simp [bc]
theorem cell_two_at (w : World) (x y : Value) (t : TypeId) (N : Nat) (hN : N = w.heap.size) : ∀ j v, [x, y][j]? = some v → (w.alloc (.cells #[x, y] t)).cell? ((⟨N, 0, none⟩ : Addr).add j) = some v := by
  subst hN
  intro j v hj
  match j, hj with
  | 0, hj => simp at hj; subst hj; simp [Addr.add]
  | 1, hj => simp at hj; subst hj; simp [Addr.add]
theorem str_cells (l : List UInt8) : Lib.strCells (str l) = bc l := by
  unfold Lib.strCells bc
  rw [bytes_str]

theorem bc_get (l : List UInt8) (j : Nat) (h : j < l.length) : (bc l)[j]? = some (.int .u8 ((l[j]'h).toNat : Int)) := by
  unfold bc
  rw [List.getElem?_map, List.getElem?_eq_getElem h]
  rfl
/-- A row of bytes of one's own, as a text. -/
theorem bytes_back {w2 : World} {base g cap : Nat} {acc : List UInt8} {b : UInt8} (h : w2.ownsRow base 5 1 (.slice (some ⟨g, 0, none⟩) (acc.length + 1) cap) (acc.length + 1) (bc acc ++ [.int .u8 (b.toNat : Int)])) :
    (convert 78 9 (.slice (some ⟨g, 0, none⟩) (acc.length + 1) cap)).run Tryd.prog w2 = .ok (.string ⟨(acc ++ [b]).toArray⟩) w2 := by
  have h' : w2.ownsRow base 5 1 (.slice (some ⟨g, 0, none⟩) (acc.length + 1) cap) (acc.length + 1) (bc (acc ++ [b])) := by rw [bc_app]; exact h
  have := run_convert_bytes_back w2 78 9 5 ⟨g, 0, none⟩ cap (acc ++ [b]) Tryd.underlying78 Tryd.underlying5 Tryd.underlying9 (fun j hj => by
    rw [Addr.add_lit, Nat.zero_add]
    exact rowCell h' j _ (bc_get _ j hj))
  rw [List.length_append] at this
  exact this

set_option maxRecDepth 100000 in
set_option maxHeartbeats 4000000 in
theorem refQuote_k (s : ByteArray) (hs : s.size ≤ 1048576) (w : World) :
    Calls Tryd.prog 21 #[.string s] w fun e w' => e = .returned (.string (str (qt s.data.toList))) ∧ Below w.heap.size w w' := by
  obtain ⟨i0, hi, hz0, hz1, hz2⟩ := info_parts infoByte
  have hlen : s.data.toList.length = s.size := by rw [Array.length_toList]; rfl
  have hr := refRunes_cells s hs w
  have hle := rs_le s
  have hfl := fl_len s.data.toList
  rw [hlen] at hfl
  obtain ⟨M, hM⟩ : ∃ M, (rs s.data.toList).length = M := ⟨_, rfl⟩
  rw [hM] at hr hle
  obtain ⟨X, hX⟩ : ∃ X, str (qt s.data.toList) = X := ⟨_, rfl⟩
  rw [hX]
  have HXX := hide hX
  have HFL := hide hfl
  clear hX hfl
  go_enter Tryd.func21, Tryd.ntmps21
  go_wp2_with (go_at_call 30; refine hr.mono ?_; clear hr; rintro e w1 ⟨a, cp, rfl, hx, hb⟩; have HX := hide hx; clear hx)
  have hsz1 := hb.size
  have hrow0 : (w1.alloc (.cells #[.int .u8 34] 5)).ownsRow w1.heap.size 5 1 (.slice (some ⟨w1.heap.size, 0, none⟩) 1 1) 1 (bc [34]) := World.ownsRow_lit w1 #[.int .u8 34] 1 (Nat.le_refl _) (by unfold maxLen; omega) rfl
  have hb0 : Below w1.heap.size w1 (w1.alloc (.cells #[.int .u8 34] 5)) := (Below.refl _ _).alloc (Nat.le_refl _) _
  go_loopw [4, 5, 6, 7] (fun v vi _ _ wr => ∃ (i k : Nat) (acc : List UInt8), vi = .int .i64 (i : Int) ∧ i ≤ M ∧ Hid (QAt s.data.toList i k) ∧ Hid (34 :: fl s.data.toList = acc ++ fl (s.data.toList.drop k)) ∧ wr.ownsRow w1.heap.size 5 1 v acc.length (bc acc) ∧ Below w1.heap.size w1 wr)
    (fun _ v _ _ _ => M - (Lib.intOf v).toNat)
  case atStart => exact ⟨0, 0, [34], rfl, Nat.zero_le _, QAt.start _, rfl, hrow0, hb0⟩
  case round =>
    obtain ⟨i, k, acc, rfl, hiM, HA, HF, hrow, hbel⟩ := hrel
    clear hrow0 hb0
    obtain ⟨ao, cp', rfl⟩ := row_slice hrow
    have hal : acc.length ≤ 4194305 := by
      have := congrArg List.length HF.out
      have h2 := HFL.out
      rw [List.length_cons, List.length_append] at this
      omega
    have hszr := hbel.size
    by_cases hlt : i < M
    · obtain ⟨hk, hget, hnx⟩ := HA.out.get (by omega)
      obtain ⟨g, rfl, d1, d2, d3⟩ := HX.out i (by omega)
      rw [hget] at d1 d2 d3
      dsimp only at d1 d2 d3
      have e1 := keepCell d1 hbel
      have e2 := keepCell d2 hbel
      have e3 := keepCell d3 hbel
      have hk' : k < s.size := by omega
      have hne : s.data.toList.drop k ≠ [] := drop_ne s k hk'
      have hf := HF.out
      rw [fl_step _ hne, List.drop_drop, ← List.append_assoc] at hf
      have hr1 := rv_lo (s.data.toList.drop k)
      have hr2 := rv_hi (s.data.toList.drop k)
      have hw1 := wd_pos (s.data.toList.drop k)
      have hw2 := wd_room s k hk'
      have HN := hide hnx
      have hb0 : ((s.data.toList.drop k).getD 0 0) = s.data.toList.getD k 0 := by
        rw [List.getD_eq_getElem?_getD, List.getElem?_drop, ← List.getD_eq_getElem?_getD, Nat.add_zero]
      clear d1 d2 d3 hget hnx HA HF
      by_cases c1 : rv (s.data.toList.drop k) = 34 ∨ rv (s.data.toList.drop k) = 92
      · have hp : pc (s.data.toList.drop k) = [92, (s.data.toList.drop k).getD 0 0] := by unfold pc; rw [if_pos c1]
        have hbv : (((s.data.toList.drop k).getD 0 0).toNat : Int) = rv (s.data.toList.drop k) := by
          rcases c1 with c1 | c1
          · have := low_byte _ hne 34 (by decide) c1
            omega
          · have := low_byte _ hne 92 (by decide) c1
            omega
        rw [hp] at hf
        have HF := hide hf
        generalize (s.data.toList.drop k).getD 0 0 = b at *
        clear hf hp hb0
        have HBV := hide hbv
        clear hbv
        generalize wd (s.data.toList.drop k) = n at *
        generalize rv (s.data.toList.drop k) = r at *
        have HR := hide c1
        rcases c1 with rfl | rfl
        · go_wp2_with (at_builtin; refine wpList_append_own _ rfl _ _ 78 rfl w1.heap.size 5 i0 (.int .u8 0) 1 1 Tryd.underlying78 hi hz0 hz1 hz2 rfl (by decide) _ _ _ rfl ((hrow.alloc _).alloc _) ⟨wr.heap.size + 1, 0, none⟩ 2 2 [.int .u8 92, .int .u8 34] rfl rfl (cell_two_at _ _ _ _ _ (by simp)) (by simp [Value.oneCell']) (by unfold maxLen; omega) (by omega) (by simp; omega) ?_; intro v' w2 hown' hgrow _; obtain ⟨g', cap', rfl⟩ := ownsRow_succ hown')
          go_roundw
          case rel =>
            refine ⟨i + 1, k + n, acc ++ [92, b], by simp, by omega, HN, HF, ?_, ((hbel.alloc hszr _).alloc (by simp; omega) _).grown hgrow (by simp; omega) (fun j ej => (row_block hrow j ej).1)⟩
            rw [bc_app, List.length_append, show bc [92, b] = [.int .u8 92, .int .u8 34] from (by show [Value.int .u8 (((92 : UInt8).toNat : Nat) : Int), .int .u8 (b.toNat : Int)] = _; rw [HBV.out]; rfl)]
            exact hown'
          case measure =>
            simp [Lib.intOf]
            omega
        · go_wp2_with (at_builtin; refine wpList_append_own _ rfl _ _ 78 rfl w1.heap.size 5 i0 (.int .u8 0) 1 1 Tryd.underlying78 hi hz0 hz1 hz2 rfl (by decide) _ _ _ rfl ((hrow.alloc _).alloc _) ⟨wr.heap.size + 1, 0, none⟩ 2 2 [.int .u8 92, .int .u8 92] rfl rfl (cell_two_at _ _ _ _ _ (by simp)) (by simp [Value.oneCell']) (by unfold maxLen; omega) (by omega) (by simp; omega) ?_; intro v' w2 hown' hgrow _; obtain ⟨g', cap', rfl⟩ := ownsRow_succ hown')
          go_roundw
          case rel =>
            refine ⟨i + 1, k + n, acc ++ [92, b], by simp, by omega, HN, HF, ?_, ((hbel.alloc hszr _).alloc (by simp; omega) _).grown hgrow (by simp; omega) (fun j ej => (row_block hrow j ej).1)⟩
            rw [bc_app, List.length_append, show bc [92, b] = [.int .u8 92, .int .u8 92] from (by show [Value.int .u8 (((92 : UInt8).toNat : Nat) : Int), .int .u8 (b.toNat : Int)] = _; rw [HBV.out]; rfl)]
            exact hown'
          case measure =>
            simp [Lib.intOf]
            omega
      · have n1 : (rv (s.data.toList.drop k) == 34) = false := beq_eq_false_iff_ne.2 (fun e => c1 (.inl e))
        have n2 : (rv (s.data.toList.drop k) == 92) = false := beq_eq_false_iff_ne.2 (fun e => c1 (.inr e))
        by_cases c2 : rv (s.data.toList.drop k) = 10
        · have hp : pc (s.data.toList.drop k) = [92, 110] := by unfold pc; rw [if_neg c1, if_pos c2]
          rw [hp] at hf
          have HF := hide hf
          clear hf hp hb0 c1 n1 n2
          generalize wd (s.data.toList.drop k) = n at *
          generalize rv (s.data.toList.drop k) = r at *
          subst c2
          go_wp2_with (at_builtin; refine wpList_append_own _ rfl _ _ 78 rfl w1.heap.size 5 i0 (.int .u8 0) 1 1 Tryd.underlying78 hi hz0 hz1 hz2 rfl (by decide) _ _ _ rfl ((hrow.alloc _).alloc _) ⟨wr.heap.size + 1, 0, none⟩ 2 2 [.int .u8 92, .int .u8 110] rfl rfl (cell_two_at _ _ _ _ _ (by simp)) (by simp [Value.oneCell']) (by unfold maxLen; omega) (by omega) (by simp; omega) ?_; intro v' w2 hown' hgrow _; obtain ⟨g', cap', rfl⟩ := ownsRow_succ hown')
          go_roundw
          case rel =>
            refine ⟨i + 1, k + n, acc ++ [92, 110], by simp, by omega, HN, HF, ?_, ((hbel.alloc hszr _).alloc (by simp; omega) _).grown hgrow (by simp; omega) (fun j ej => (row_block hrow j ej).1)⟩
            rw [bc_app, List.length_append, show bc [92, 110] = [.int .u8 92, .int .u8 110] from rfl]
            exact hown'
          case measure =>
            simp [Lib.intOf]
            omega
        · have n3 : (rv (s.data.toList.drop k) == 10) = false := beq_eq_false_iff_ne.2 c2
          by_cases c3 : rv (s.data.toList.drop k) < 32 ∨ rv (s.data.toList.drop k) = 127
          · have hp : pc (s.data.toList.drop k) = [92, 120, hexd ((s.data.toList.getD k 0).toNat / 16), hexd ((s.data.toList.getD k 0).toNat % 16)] := by unfold pc; rw [if_neg c1, if_neg c2, if_pos c3, hb0]
            rw [hp] at hf
            have HF := hide hf
            have hby := byte_at s k hk'
            have hbl := (s.data.toList.getD k 0).toNat_lt
            clear hf hp hb0 c1 c2
            generalize wd (s.data.toList.drop k) = n at *
            generalize rv (s.data.toList.drop k) = r at *
            generalize (s.data.toList.getD k 0).toNat = bb at *
            obtain ⟨y1, hy1⟩ : ∃ y1 : Nat, bb / 16 = y1 := ⟨_, rfl⟩
            obtain ⟨y2, hy2⟩ : ∃ y2 : Nat, bb % 16 = y2 := ⟨_, rfl⟩
            have hand := and15 bb hbl
            rw [hy2] at hand
            have hdiv : ((bb : Int) / 16) = (y1 : Int) := by omega
            have hx1 := idx_dig y1 (by omega)
            have hx2 := idx_dig y2 (by omega)
            rw [hy1, hy2] at HF
            clear hy1 hy2
            generalize hexd y1 = z1 at *
            generalize hexd y2 = z2 at *
            have hrowD : ∀ o1 o2 : Obj, (((wr.alloc o1).alloc o2).drew).ownsRow w1.heap.size 5 1 (.slice ao acc.length cp') acc.length (bc acc) := fun o1 o2 => (hrow.alloc o1).alloc o2
            have hcD : ∀ (o1 : Obj) (x y z u : Value) (t : TypeId), ∀ j v, [x, y, z, u][j]? = some v → (((wr.alloc o1).alloc (.cells #[x, y, z, u] t)).drew).cell? ((⟨wr.heap.size + 1, 0, none⟩ : Addr).add j) = some v := fun o1 x y z u t => cell_four_at (wr.alloc o1) x y z u t (wr.heap.size + 1) (by simp)
            rcases c3 with c3 | c3
            all_goals (
              (try (have c4 : ¬ r < 32 := by omega))
              (try (have c5 : (r == 127) = true := by rw [c3]; rfl))
              go_wp2
              go_region_law (refine step_append_own rfl (.tmp 67) (.tmp 74) 78 rfl w1.heap.size 5 i0 (.int .u8 0) 1 1 Tryd.underlying78 hi hz0 hz1 hz2 rfl (by decide) (.slice ao acc.length cp') acc.length (bc acc) (by simp [Act.eval]) (hrowD _ _) ⟨wr.heap.size + 1, 0, none⟩ 4 4 [.int .u8 92, .int .u8 120, .int .u8 (z1.toNat : Int), .int .u8 (z2.toNat : Int)] (by simp [Act.eval]) rfl (hcD _ _ _ _ _ _) (by simp [Value.oneCell']) (by unfold maxLen; omega) (by omega) (by have := hszr; simp [World.drew]; omega) ?_; intro v' w2 hown' hgrow; obtain ⟨g', cap', rfl⟩ := ownsRow_succ hown')
              all_goals (
                go_wp2
                go_roundw
                case rel =>
                  refine ⟨i + 1, k + n, acc ++ [92, 120, z1, z2], by simp, by omega, HN, HF, ?_, (Below.drew ((hbel.alloc hszr _).alloc (by simp; omega) _)).grown hgrow (by simp [World.drew]; omega) (fun j ej => (row_block hrow j ej).1)⟩
                  rw [bc_app, List.length_append]
                  exact hown'
                case measure =>
                  simp [Lib.intOf]
                  omega))
          · have c4 : ¬ rv (s.data.toList.drop k) < 32 := fun h => c3 (.inl h)
            have c5 : (rv (s.data.toList.drop k) == 127) = false := beq_eq_false_iff_ne.2 (fun h => c3 (.inr h))
            have hp : pc (s.data.toList.drop k) = (s.data.toList.drop k).take (wd (s.data.toList.drop k)) := by unfold pc; rw [if_neg c1, if_neg c2, if_neg c3]
            rw [hp] at hf
            have HF := hide hf
            have hex := extract_str s k (k + wd (s.data.toList.drop k))
            rw [Nat.add_sub_cancel_left] at hex
            have hsl : ∀ w', (Instr.slice 9 (.string s) (some (.int .i64 (k : Int))) (some (.int .i64 ((k : Int) + (wd (s.data.toList.drop k) : Int)))) none).run Tryd.prog w' = .ok (.string (str ((s.data.toList.drop k).take (wd (s.data.toList.drop k))))) w' := fun w' => by
              rw [run_slice_string _ _ s .i64 .i64 _ _ Tryd.underlying9 (by omega) (by omega) (by omega)]
              have e : ((k : Int) + (wd (s.data.toList.drop k) : Int)).toNat = k + wd (s.data.toList.drop k) := by omega
              rw [e, Int.toNat_natCast, hex]
            have hsz := str_size ((s.data.toList.drop k).take (wd (s.data.toList.drop k)))
            have hsn : ((s.data.toList.drop k).take (wd (s.data.toList.drop k))).length ≤ 4 := by
              rw [List.length_take]
              have := wd_le4 (s.data.toList.drop k)
              omega
            have hsc := str_cells ((s.data.toList.drop k).take (wd (s.data.toList.drop k)))
            clear hf hp hb0 c1 c2 c3 hex
            generalize (s.data.toList.drop k).take (wd (s.data.toList.drop k)) = tk at *
            generalize wd (s.data.toList.drop k) = n at *
            generalize rv (s.data.toList.drop k) = r at *
            obtain ⟨sx, hsx⟩ : ∃ sx, str tk = sx := ⟨_, rfl⟩
            rw [hsx] at hsz hsl hsc
            clear hsx
            have HSC := hide hsc
            clear hsc
            go_wp2_with (at_builtin; refine Lib.wpList_append_own_string _ rfl _ _ 78 9 rfl w1.heap.size 5 i0 Tryd.underlying78 Tryd.underlying9 hi hz0 hz1 hz2 _ _ _ rfl (hrow.alloc _) sx rfl (by unfold maxLen; omega) (by omega) (by simp; omega) ?_; intro v' w2 hown' hgrow _; obtain ⟨ao2, cp2, rfl⟩ := row_slice hown')
            go_roundw
            case rel =>
              refine ⟨i + 1, k + n, acc ++ tk, by simp, by omega, HN, HF, ?_, (hbel.alloc hszr _).grown hgrow (by simp; omega) (fun j ej => (row_block hrow j ej).1)⟩
              rw [bc_app, List.length_append, ← HSC.out]
              rw [hsz] at hown'
              exact hown'
            case measure =>
              simp [Lib.intOf]
              omega
    · have hd := HA.out.done (by omega)
      have hf := HF.out
      rw [hd, fl_nil, List.append_nil] at hf
      have hxe : X = ⟨(acc ++ [34]).toArray⟩ := by
        rw [← HXX.out, qt_fl, ← hf]
        rfl
      subst hxe
      clear HXX hf hd HA HF
      go_wp2_with (at_builtin; refine wpList_append_own _ rfl _ _ 78 rfl w1.heap.size 5 i0 (.int .u8 0) 1 1 Tryd.underlying78 hi hz0 hz1 hz2 rfl (by decide) _ _ _ rfl (hrow.alloc _) ⟨wr.heap.size, 0, none⟩ 1 1 [.int .u8 34] rfl rfl (cell_one_at _ _ _ _ rfl) (by simp [Value.oneCell']) (by unfold maxLen; omega) (by omega) (by simp; omega) ?_; intro v' w2 hown' hgrow _; obtain ⟨g', cap', rfl⟩ := ownsRow_succ hown'; have hcv := bytes_back (b := 34) (acc := acc) hown')
      go_ret
      exact ⟨rfl, hb.trans (((hbel.alloc hszr _).grown hgrow (by simp; omega) (fun j ej => (row_block hrow j ej).1)).mono hsz1)⟩
end Go.Proofs.YtpbebcefnkbnlabDoor
