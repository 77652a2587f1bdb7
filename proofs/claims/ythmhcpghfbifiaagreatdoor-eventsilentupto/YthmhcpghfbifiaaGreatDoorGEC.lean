/- What is laid down of events is read as them: plain mathematics. -/
import Derived.Test.YthmhcpghfbifiaaGreatDoorZEDEv
import Derived.Test.YthmhcpghfbifiaaGreatDoorGEB
import Derived.Test.YthmhcpghfbifiaaGreatDoorGGvA
import Derived.Test.YthmhcpghfbifiaaGreatDoorGHBase
import Derived.Test.YthmhcpghfbifiaaGreatDoorZVCopied
import Derived.Deep.AppendLies
import Derived.Test.YthmhcpghfbifiaaGreatDoorGPars
import Derived.Test.YthmhcpghfbifiaaGreatDoorGText
import Derived.Test.YthmhcpghfbifiaaGreatDoorGHead
import Derived.Test.YthmhcpghfbifiaaGreatDoorZVParM
import Derived.Lib.SlTrimSet
import Derived.Test.YthmhcpghfbifiaaGreatDoorGE2
namespace Go.Proofs.YthmhcpghfbifiaaGreatDoor
open Go.RowKit

/-- An event without its place. -/
def unsE (e : Evn) : Evn := ⟨e.kind, e.proc, e.obj, e.op, e.val, 0, 0, 0⟩
theorem deepLe_up : ∀ (n : Nat) (v : Vl), deepLe n v → deepLe (n + 1) v
  | 0, _, h => h.elim
  | n + 1, _, h => fun x hx => deepLe_up n x (h x hx)
theorem deepLe_more (n : Nat) (v : Vl) (h : deepLe n v) : ∀ k, deepLe (n + k) v
  | 0 => h
  | k + 1 => deepLe_up (n + k) v (deepLe_more n v h k)
theorem decVal6_enc {v : Vl} (hr : rightV v = true) (hok : ∀ m, okD m v) (r : List UInt8) : decVal6 (encV v ++ r) = some (v, (encV v).length) := by
  obtain ⟨h1, h2, h3⟩ := (rightV_is v).1 hr
  have hd := dec_enc (encV v ++ r) 4097 v 0 0 r h3 (deepLe_more 16 v h2 4081) (hok _) (by rw [List.drop_zero]) (by omega)
  unfold decVal6
  rw [hd]
  simp only
  rw [if_pos hr, Nat.zero_add]
theorem text_b (t : List UInt8) (ht : t.length ≤ 1048576) (r : List UInt8) : textOf (txt (bsN t) ++ r) = t ∧ textErr (txt (bsN t) ++ r) = 0 ∧ textRest (txt (bsN t) ++ r) = r := text_backV (bsN t) (by rw [bsN_size]; exact ht) r
theorem right_parts {e : Evn} (h : rightE e = true) : framedB e = true ∧ rightV e.val = true := by
  rw [right_framed, Bool.and_eq_true] at h
  exact h
theorem framed_kind {e : Evn} (h : framedB e = true) : e.kind = 1 ∨ (e.kind = 2 ∧ e.obj = [] ∧ e.op = []) := by
  unfold framedB at h
  split at h
  · exact .inl ‹_›
  · split at h
    · rename_i h2
      simp only [Bool.and_eq_true, List.isEmpty_iff] at h
      exact .inr ⟨h2, h.1.2, h.2⟩
    · cases h
theorem framed_val (e : Evn) (v : Vl) (a b c : Int) : framedB ⟨e.kind, e.proc, e.obj, e.op, v, a, b, c⟩ = framedB e := rfl
theorem decEv6_enc {e : Evn} (hr : rightE e = true) (ho : EvOk e) (hok : ∀ m, okD m e.val) (r : List UInt8) : decEv6 (encE e ++ r) = some (unsE e, r) := by
  obtain ⟨hf, hv⟩ := right_parts hr
  have hdv := decVal6_enc hv hok r
  obtain ⟨ek, ep, eo, eq, ev, e1, e2, e3⟩ := e
  simp only at hv hdv hok
  rcases framed_kind hf with hk | ⟨hk, hob, hop⟩
  · simp only at hk
    subst hk
    obtain ⟨a1, a2, a3⟩ := text_b ep ho.proc (txt (bsN eo) ++ (txt (bsN eq) ++ (encV ev ++ r)))
    obtain ⟨b1, b2, b3⟩ := text_b eo ho.obj (txt (bsN eq) ++ (encV ev ++ r))
    obtain ⟨c1, c2, c3⟩ := text_b eq ho.op (encV ev ++ r)
    have he : encE ⟨1, ep, eo, eq, ev, e1, e2, e3⟩ ++ r = 1 :: (txt (bsN ep) ++ (txt (bsN eo) ++ (txt (bsN eq) ++ (encV ev ++ r)))) := by
      unfold encE
      simp
    rw [he]
    have hh : decHead6 (1 :: (txt (bsN ep) ++ (txt (bsN eo) ++ (txt (bsN eq) ++ (encV ev ++ r))))) = some (⟨1, ep, eo, eq, ⟨0, 0, 0, ⟨#[]⟩, []⟩, 0, 0, 0⟩, encV ev ++ r) := by
      simp only [decHead6]
      rw [a1, a2, a3, b1, b2, b3, c1, c2, c3]
      rfl
    unfold decEv6
    rw [hh]
    have hf' : framedB ⟨1, ep, eo, eq, ⟨0, 0, 0, ⟨#[]⟩, []⟩, 0, 0, 0⟩ = true := hf
    simp only [hf', if_true, hdv, unsE, List.drop_left]
  · simp only at hk hob hop
    subst hk hob hop
    obtain ⟨a1, a2, a3⟩ := text_b ep ho.proc (encV ev ++ r)
    have he : encE ⟨2, ep, [], [], ev, e1, e2, e3⟩ ++ r = 2 :: (txt (bsN ep) ++ (encV ev ++ r)) := by
      unfold encE
      simp
    rw [he]
    have hh : decHead6 (2 :: (txt (bsN ep) ++ (encV ev ++ r))) = some (⟨2, ep, [], [], ⟨0, 0, 0, ⟨#[]⟩, []⟩, 0, 0, 0⟩, encV ev ++ r) := by
      simp only [decHead6]
      rw [a1, a2, a3]
      rfl
    unfold decEv6
    rw [hh]
    have hf' : framedB ⟨2, ep, [], [], ⟨0, 0, 0, ⟨#[]⟩, []⟩, 0, 0, 0⟩ = true := hf
    simp only [hf', if_true, hdv, unsE, List.drop_left]
theorem decEvs6_enc : ∀ (l : List Evn) (r : List UInt8), (∀ e ∈ l, rightE e = true ∧ EvOk e ∧ ∀ m, okD m e.val) → decEvs6 l.length ((l.map encE).flatten ++ r) = some (l.map unsE, r)
  | [], r, _ => rfl
  | e :: l, r, h => by
    have h0 := h e (by simp)
    have ih := decEvs6_enc l r (fun x hx => h x (by simp [hx]))
    rw [List.length_cons, List.map_cons, List.flatten_cons, List.append_assoc, decEvs6, decEv6_enc h0.1 h0.2.1 h0.2.2]
    simp only
    rw [ih]
    rfl
theorem decL6_enc {l : List Evn} (hl : l.length < 18446744073709551616) (h : ∀ e ∈ l, rightE e = true ∧ EvOk e ∧ ∀ m, okD m e.val) : decL6 (encL l) = some (l.map unsE) := by
  have hf := front_back l.length hl (l.map encE).flatten
  unfold decL6 encL
  rw [hf]
  simp only [if_true, List.drop_left]
  have := decEvs6_enc l [] h
  rw [List.append_nil] at this
  rw [this]
  rfl
end Go.Proofs.YthmhcpghfbifiaaGreatDoor

/- A row of events in the making. -/
namespace Go.Proofs.YthmhcpghfbifiaaGreatDoor
open Go.RowKit

/-- An event with where its value's items lie. -/
abbrev EW := Evn × Value
def ewL (x : EW) : List Value := (evCells x.1 x.2).toList
def ewRow (l : List EW) : List Value := l.flatMap ewL
theorem ewL_len (x : EW) : (ewL x).length = 12 := rfl
theorem ewRow_len (l : List EW) : (ewRow l).length = l.length * 12 := by
  induction l with
  | nil => rfl
  | cons x l ih => rw [ewRow, List.flatMap_cons, List.length_append, ewL_len]; change 12 + (ewRow l).length = _; rw [ih, List.length_cons]; omega
theorem ewRow_split (l : List EW) (j : Nat) (h : j < l.length) : ewRow l = ewRow (l.take j) ++ (ewL l[j] ++ ewRow (l.drop (j + 1))) := by
  have e : l = l.take j ++ l[j] :: l.drop (j + 1) := by rw [← List.drop_eq_getElem_cons h, List.take_append_drop]
  have : ewRow l = ewRow (l.take j ++ l[j] :: l.drop (j + 1)) := by rw [← e]
  rw [this]
  unfold ewRow
  rw [List.flatMap_append, List.flatMap_cons]
theorem ewRow_get (l : List EW) (j : Nat) (h : j < l.length) (i : Nat) (hi : i < 12) : (ewRow l)[j * 12 + i]? = (ewL l[j])[i]? := by
  have e1 : (ewRow (l.take j)).length = j * 12 := by rw [ewRow_len, List.length_take]; congr 1; omega
  rw [ewRow_split l j h, List.getElem?_append_right (by omega), e1, Nat.add_sub_cancel_left, List.getElem?_append_left (by rw [ewL_len]; omega)]
theorem ewRow_snoc (E : List EW) (x : EW) : ewRow (E ++ [x]) = ewRow E ++ ewL x := by simp [ewRow]
theorem infoEv6 : (Tryz.prog.info? 48).map (fun i => (i.zero, i.size, i.bytes)) = some (some (.agg (evCells ⟨0, [], [], [], ⟨0, 0, 0, ⟨#[]⟩, []⟩, 0, 0, 0⟩ (.slice none 0 0))), 12, 144) := by kernel_rfl
/-- Events in the making: the row and its items lie in blocks from L on. -/
def EvMk (w : World) (L n : Nat) (v : Value) (l : List Evn) : Prop := ∃ E : List EW, E.map (·.1) = l ∧ w.ownsRow L 48 12 v E.length (ewRow E) ∧
  ∀ x ∈ E, ItemsIn w (fun b => L ≤ b ∧ b < w.heap.size ∧ v.ownBlock ≠ some b) n x.2 x.1.val.items ∧ EvOk x.1 ∧ x.1.val.size ≤ 1000000000
theorem EvMk.nil (w : World) (L n : Nat) : EvMk w L n (.slice none 0 0) [] := ⟨[], rfl, World.ownsRow_nil _ _ _ _, fun x h => by simp at h⟩
theorem EvMk.len {w : World} {L n : Nat} {v : Value} {l : List Evn} (h : EvMk w L n v l) : ∃ a c, v = .slice a l.length c := by
  obtain ⟨E, hE, hr, _⟩ := h
  have : E.length = l.length := by rw [← hE, List.length_map]
  rcases hr.2 with ⟨h1, h2⟩ | ⟨g, cap, cur, hv, _⟩
  · exact ⟨none, 0, by rw [h1, ← this, h2]⟩
  · exact ⟨_, _, by rw [hv, this]⟩
theorem EvMk.lt {w : World} {L n : Nat} {v : Value} {l : List Evn} (h : EvMk w L n v l) {b : Nat} (e : v.ownBlock = some b) : L ≤ b ∧ b < w.heap.size := by
  obtain ⟨E, hE, hr, _⟩ := h
  exact hr.lt b e
theorem EvMk.far {w w' : World} {L n : Nat} {v : Value} {l : List Evn} (h : EvMk w L n v l) (hs : w.heap.size ≤ w'.heap.size) (hk : ∀ k, L ≤ k → k < w.heap.size → w'.heap[k]? = w.heap[k]?) : EvMk w' L n v l := by
  obtain ⟨E, hE, hr, hi⟩ := h
  refine ⟨E, hE, ?_, fun x hx => ⟨(hi x hx).1.kept (fun b o hb => World.cell?_of_block (hk b hb.1 hb.2.1)) (fun b hb => ⟨hb.1, by omega, hb.2.2⟩), (hi x hx).2⟩⟩
  refine ⟨hr.1, ?_⟩
  rcases hr.2 with hn | ⟨g, cap, cur, rfl, hbg, hgb, rest⟩
  · exact .inl hn
  · exact .inr ⟨g, cap, cur, rfl, hbg, (hk g hbg (Array.getElem?_eq_some_iff.1 hgb).1).trans hgb, rest⟩
theorem EvMk.evs {w : World} {L n : Nat} {v : Value} {l : List Evn} (h : EvMk w L n v l) (hl : l.length ≤ 1000000000) : EvsAt w w.heap.size n v l := by
  obtain ⟨E, rfl, hr, hi⟩ := h
  have hlm : (E.map (·.1)).length = E.length := List.length_map _
  rcases hr.2 with ⟨h1, h2⟩ | ⟨g, cap, cur, rfl, _⟩
  · have : E = [] := List.length_eq_zero_iff.1 h2
    subst this
    exact ⟨none, 0, h1, by simp, fun j hj => by simp at hj⟩
  refine ⟨_, _, by rw [hlm], by omega, fun j hj => ?_⟩
  have hj' : j < E.length := by omega
  have hm : E[j] ∈ E := List.getElem_mem _
  have hz := hi _ hm
  refine ⟨g, 0, E[j].2, rfl, (hr.lt g rfl).2, fun i v hv => ?_, ?_, ?_, ?_⟩
  · have hi : i < 12 := by
      have := (Array.getElem?_eq_some_iff.1 hv).1
      exact this
    rw [Nat.zero_add, hr.cellAt (j * 12 + i) (by have := Nat.mul_le_mul_right 12 (show j + 1 ≤ E.length by omega); omega), ewRow_get E j hj' i hi, ← hv]
    simp [ewL]
  · rw [List.getElem_map]; exact hz.1.at (fun b hb => hb.2.1)
  · rw [List.getElem_map]; exact hz.2.1
  · rw [List.getElem_map]; exact hz.2.2
/-- An event is laid behind the others. -/
theorem EvMk.push {w : World} {L n : Nat} {v s : Value} {l : List Evn} (h : EvMk w L n v l) (hL : L ≤ w.heap.size) (hn : l.length + 1 ≤ 1000000000) (x : Evn) (ty : TypeId)
    (hx : ItemsIn w (fun b => L ≤ b ∧ b < w.heap.size ∧ v.ownBlock ≠ some b) n s x.val.items) (ho : EvOk x) (hz : x.val.size ≤ 1000000000) :
    ∃ g cap w', (Builtin.append_ #[22, 22] ty #[v, .slice (some ⟨w.heap.size, 0, none⟩) 1 1]).run Tryz.prog (w.alloc (.cells (evCells x s) 48)) = .ok (.slice (some ⟨g, 0, none⟩) (l.length + 1) cap) w' ∧ EvMk w' L n (.slice (some ⟨g, 0, none⟩) (l.length + 1) cap) (l ++ [x]) ∧ w.grownBy w' v.ownBlock ∧ (v.ownBlock = some g ∨ w.heap.size ≤ g) := by
  obtain ⟨E, rfl, hr, hi⟩ := h
  have hlm : (E.map (·.1)).length = E.length := List.length_map _
  rw [hlm] at hn ⊢
  obtain ⟨i0, hi0, hz0, hz1, hz2⟩ := info_partsV infoEv6
  obtain ⟨a1, c1, e1, _⟩ := hx.len
  have bA : Below w.heap.size w (w.alloc (.cells (evCells x s) 48)) := Below.alloc (Below.refl _ _) (Nat.le_refl _) _
  have e := World.alloc_heap_new w (.cells (evCells x s) 48)
  have hA : (w.alloc (.cells (evCells x s) 48)).ownsRow L 48 12 v E.length (ewRow E) := hr.kept (grown_of_below (r := none) bA) (by cases v.ownBlock <;> simp)
  obtain ⟨g, cap, w', hrun, A1, A2, A3, A4⟩ := run_append_lies (P := Tryz.prog) (w.alloc (.cells (evCells x s) 48)) 22 ty L 48 i0 _ 12 144 Tryz.underlying22 hi0 hz0 hz1 hz2 rfl (by decide) v E.length (ewRow E) hA ⟨w.heap.size, 0, none⟩ 1 1 (ewL (x, s)) rfl (fun j u hj => by
      rw [Addr.add_lit, Nat.zero_add]
      exact cells_at e j u (by simpa [ewL] using hj)) (fun u hu => by
      simp only [ewL, List.mem_cons, List.not_mem_nil, or_false, e1] at hu
      rcases hu with rfl | rfl | rfl | rfl | rfl | rfl | rfl | rfl | rfl | rfl | rfl | rfl <;> rfl) (by omega) (by unfold maxLen; omega) (by omega) (by rw [World.size_alloc]; omega) (w.heap.size + 1) (by rw [World.size_alloc])
  have gr := (World.grownBy_alloc w (.cells (evCells x s) 48) v.ownBlock).trans A2
  have lie : v.ownBlock = some g ∨ w.heap.size ≤ g := by
    rcases A3 with A3 | A3
    · exact .inl A3
    · exact .inr (by omega)
  refine ⟨g, cap, w', hrun, ⟨E ++ [(x, s)], by simp, by rw [ewRow_snoc, List.length_append, List.length_singleton]; exact A1, fun y hy => ?_⟩, gr, lie⟩
  have hk : ∀ b o, (L ≤ b ∧ b < w.heap.size ∧ v.ownBlock ≠ some b) → w'.cell? ⟨b, o, none⟩ = w.cell? ⟨b, o, none⟩ := fun b o hS => World.cell?_of_block (gr.block b hS.2.1 (fun e => hS.2.2 e.symm))
  have hS : ∀ b, (L ≤ b ∧ b < w.heap.size ∧ v.ownBlock ≠ some b) → L ≤ b ∧ b < w'.heap.size ∧ (Value.slice (some ⟨g, 0, none⟩) (E.length + 1) cap).ownBlock ≠ some b := fun b hb => ⟨hb.1, Nat.lt_of_lt_of_le hb.2.1 gr.size, fun e => by
    have e' : g = b := Option.some.inj e
    rcases lie with l | l
    · exact hb.2.2 (by rw [l, e'])
    · have := hb.2.1; omega⟩
  rcases List.mem_append.1 hy with hy | hy
  · exact ⟨(hi y hy).1.kept (fun b o hb => hk b o hb) hS, (hi y hy).2⟩
  · simp at hy
    subst hy
    exact ⟨hx.kept (fun b o hb => hk b o hb) hS, ho, hz⟩
end Go.Proofs.YthmhcpghfbifiaaGreatDoor

/- The reader of a line: how it lies; giveUp, word. -/
namespace Go.Proofs.YthmhcpghfbifiaaGreatDoor
open Go.RowKit

/-- A reader of a line: the whole text, where the line begins, what it says, its words that are left, how far it was read. -/
def LrAt (w : World) (rb : Nat) (s : List UInt8) (start : Nat) (said : List UInt8) (ws : Value) (rd : Nat) : Prop := w.heap[rb]? = some (.cells #[.string (str s), .int .i64 start, .string (str said), ws, .int .i64 rd] 68 (0, 0))
set_option maxRecDepth 100000 in
set_option maxHeartbeats 2000000 in
theorem giveUp6_k (w : World) (rb : Nat) (s said : List UInt8) (start rd off : Nat) (ws : Value) (c : Int) (hP : LrAt w rb s start said ws rd) (hs : s.length ≤ 1000000000000) (ho : start + off ≤ 4611686018427387904) :
    Calls Tryz.prog 46 #[.pointer (some ⟨rb, 0, none⟩), .int .i64 c, .int .i64 off] w fun e w' => e = gaveIn s c (start + off) ∧ Below w.heap.size w w' := by
  have u0 := fun q : Wv w => q.cell (cells_at hP 0 _ rfl)
  have u1 := fun q : Wv w => q.cell (cells_at hP 1 _ rfl)
  have HA := hide (fun q : Wv w => at_k (str s) (by rw [str_size]; exact hs) ((start + off : Nat) : Int) q.val)
  rw [bytes_str] at HA
  have hadd : IntKind.i64.wrap ((start : Int) + (off : Int)) = ((start + off : Nat) : Int) := by rw [IntKind.wrap_i64]; omega
  have hany := Wv.any w
  clear hP
  generalize hso : start + off = so at *
  go_enter Tryz.func46, Tryz.ntmps46
  go_wp2
  refine wp_region_grown_tail 14 (by kernel_rfl) (by kernel_rfl) ?_
  simp only [List.take_succ_cons, List.take_zero, List.drop_succ_cons, List.drop_zero]
  repeat (go_big_quiet_step ((go_at_call 66; exact Wv.calls _ (HA.out _))))
  refine wpQuiet_nil ?_
  intro w1 hw'
  obtain ⟨qq, rfl⟩ := hw'
  clear u0 u1 HA hany
  go_wp2
  exact ⟨rfl, rfl, qq.below⟩
theorem word_end (w W2 : World) (rb : Nat) (s said : List UInt8) (start rd rd' : Nat) (ws ws' : Value) (q : Int) (hq : q = (rd' : Int)) (t : ByteArray) (x1 x2 x3 : Int) (c : Array Value) (hc : c.size = 4) (e1 : W2.heap[w.heap.size]? = some (.cells c 93 (0, 0))) (e2 : LrAt W2 rb s start said ws rd) (hrb : rb < w.heap.size) (hB : Below w.heap.size w W2) (Y : World)
    (hY : ((((((W2.setCell ⟨rb, 3, none⟩ ws').setCell ⟨rb, 4, none⟩ (.int .i64 q)).setCell ⟨w.heap.size, 0, none⟩ (.string t)).setCell ⟨w.heap.size, 1, none⟩ (.int .i64 x1)).setCell ⟨w.heap.size, 2, none⟩ (.int .i64 x2)).setCell ⟨w.heap.size, 3, none⟩ (.int .i64 x3)) = Y) :
    Y.heap[w.heap.size]? = some (.cells #[.string t, .int .i64 x1, .int .i64 x2, .int .i64 x3] 93 (0, 0)) ∧ LrAt Y rb s start said ws' rd' ∧ w.grownBy Y (some rb) := by
  subst hq hY
  have ne : w.heap.size ≠ rb := by omega
  have ne' : rb ≠ w.heap.size := by omega
  rcases c with ⟨_ | ⟨c0, _ | ⟨c1, _ | ⟨c2, _ | ⟨c3, _ | ⟨c4, r⟩⟩⟩⟩⟩⟩ <;> simp at hc
  have g0 := (Below.heap_setCell (W2.setCell ⟨rb, 3, none⟩ ws') ⟨rb, 4, none⟩ (.int .i64 (rd' : Int)) w.heap.size ne).trans ((Below.heap_setCell W2 ⟨rb, 3, none⟩ ws' w.heap.size ne).trans e1)
  have g1 := heap_setCell_same _ _ 0 _ _ (.string t) g0
  have g2 := heap_setCell_same _ _ 1 _ _ (.int .i64 x1) g1
  have g3 := heap_setCell_same _ _ 2 _ _ (.int .i64 x2) g2
  have g4 := heap_setCell_same _ _ 3 _ _ (.int .i64 x3) g3
  have h3 := heap_setCell_same _ _ 3 _ _ ws' e2
  have h4 := heap_setCell_same _ _ 4 _ _ (.int .i64 (rd' : Int)) h3
  refine ⟨g4, ?_, ?_⟩
  · unfold LrAt
    rw [Below.heap_setCell _ _ _ _ ne', Below.heap_setCell _ _ _ _ ne', Below.heap_setCell _ _ _ _ ne', Below.heap_setCell _ _ _ _ ne']
    exact h4
  · exact grown_far (grown_far (grown_far (grown_far (grown_more (grown_more (grown_of_below hB) (grown_set1 _ _ _ _)) (grown_set1 _ _ _ _)) (Nat.le_refl _)) (Nat.le_refl _)) (Nat.le_refl _)) (Nat.le_refl _)
theorem infoWord4 : (Tryz.prog.info? 93).map (fun i => i.size) = some 4 := by kernel_rfl
set_option maxRecDepth 100000 in
set_option maxHeartbeats 2000000 in
theorem word6_k (w : World) (rb : Nat) (s said : List UInt8) (start rd b o m c : Nat) (n : Int) (x : Wd) (hP : LrAt w rb s start said (.slice (some ⟨b, o, none⟩) (m + 1) c) rd) (hc : m + 1 ≤ c) (hcm : c ≤ maxLen) (hm : m ≤ 1048576)
    (x0 : w.cell? ⟨b, o, none⟩ = some (.string (str x.text))) (x1 : w.cell? ⟨b, o + 1, none⟩ = some (.int .i64 x.off)) (x2 : w.cell? ⟨b, o + 2, none⟩ = some (.int .i64 n)) (x3 : w.cell? ⟨b, o + 3, none⟩ = some (.int .i64 x.col)) (hb : b < w.heap.size) (_hne : b ≠ rb) (hx : x.off + x.text.length ≤ 1048576) :
    Calls Tryz.prog 44 #[.pointer (some ⟨rb, 0, none⟩)] w fun e w' => e = .returned (.agg #[.string (str x.text), .int .i64 x.off, .int .i64 n, .int .i64 x.col]) ∧ (∃ a c', LrAt w' rb s start said (.slice a m c') (x.off + x.text.length) ∧ m ≤ c' ∧ c' ≤ maxLen ∧ (0 < m → a = some ⟨b, o + 4, none⟩)) ∧ w.grownBy w' (some rb) := by
  have hrb : rb < w.heap.size := (Array.getElem?_eq_some_iff.1 hP).1
  obtain ⟨W, hW⟩ : ∃ W, (w.alloc (.cells #[.string ⟨#[]⟩, .int .i64 0, .int .i64 0, .int .i64 0] 93)) = W := ⟨_, rfl⟩
  have bW : Below w.heap.size w W := by rw [← hW]; exact alloc_v (Below.refl _ _) _
  have e1 : W.heap[w.heap.size]? = some (.cells #[.string ⟨#[]⟩, .int .i64 0, .int .i64 0, .int .i64 0] 93 (0, 0)) := by rw [← hW]; exact World.alloc_heap_new w _
  have zW : W.heap.size = w.heap.size + 1 := by rw [← hW]; simp
  obtain ⟨W2, hW2⟩ : ∃ W2, (W.alloc (.cells #[.string (str x.text), .int .i64 x.off, .int .i64 n, .int .i64 x.col] 93)) = W2 := ⟨_, rfl⟩
  have bW2 : Below W.heap.size W W2 := by rw [← hW2]; exact alloc_v (Below.refl _ _) _
  have e3 : W2.heap[W.heap.size]? = some (.cells #[.string (str x.text), .int .i64 x.off, .int .i64 n, .int .i64 x.col] 93 (0, 0)) := by rw [← hW2]; exact World.alloc_heap_new W _
  rw [zW] at e3
  have ev := (bW.block _ hrb).trans hP
  have u3v := cells_at ev 3 _ rfl
  have e2 := (bW2.block _ (by omega)).trans ev
  have e1b := (bW2.block _ (by omega)).trans e1
  have u3 := cells_at e2 3 _ rfl
  have u4 := cells_at e2 4 _ rfl
  have z3 := frozen_at e2 3
  have z4 := frozen_at e2 4
  have t0 := cells_at e3 0 _ rfl
  have t1 := cells_at e3 1 _ rfl
  have t2 := cells_at e3 2 _ rfl
  have t3 := cells_at e3 3 _ rfl
  have r0 := cells_at e1b 0 _ rfl
  have r1 := cells_at e1b 1 _ rfl
  have r2 := cells_at e1b 2 _ rfl
  have r3 := cells_at e1b 3 _ rfl
  have rz0 := frozen_at e1b 0
  have rz1 := frozen_at e1b 1
  have rz2 := frozen_at e1b 2
  have rz3 := frozen_at e1b 3
  have ne1 : w.heap.size ≠ rb := by omega
  have ne2 : w.heap.size + 1 ≠ rb := by omega
  have y0 := (bW.cell (p := ⟨b, o, none⟩) hb).trans x0
  have y1 := (bW.cell (p := ⟨b, o + 1, none⟩) hb).trans x1
  have y2 := (bW.cell (p := ⟨b, o + 2, none⟩) hb).trans x2
  have y3 := (bW.cell (p := ⟨b, o + 3, none⟩) hb).trans x3
  have HB2 := hide (trans_v bW bW2)
  have HE := hide (And.intro e1b (And.intro e2 e3))
  clear ev e1 e2 e1b e3 bW bW2
  have hi1 : (0 : Int) < ((m + 1 : Nat) : Int) := by omega
  have hi2 : (1 : Int) ≤ ((m + 1 : Nat) : Int) := by omega
  have hsz : (str x.text).size = x.text.length := str_size _
  have hadd : IntKind.i64.wrap ((x.off : Int) + (x.text.length : Int)) = ((x.off + x.text.length : Nat) : Int) := by rw [IntKind.wrap_i64]; omega
  have HP := hide hP
  have HX := hide hx
  clear x0 x1 x2 x3 hP hx
  by_cases hc1 : c = 1
  · have hm0 : m = 0 := by omega
    subst hc1 hm0
    go_enter Tryz.func44, Tryz.ntmps44
    go_wp2
    have hE := word_end w W2 rb s said start rd (x.off + x.text.length) _ (.slice (some ⟨b, o, none⟩) 0 0) ((x.off : Int) + (x.text.length : Int)) (by omega) (str x.text) x.off n x.col _ rfl HE.out.1 HE.out.2.1 hrb HB2.out _ rfl
    exact bodyPost_ret (results_cell_row rfl _ _ w.heap.size _ _ _ _ rfl hE.1 Tryz.underlying93 rfl infoWord4) rfl ⟨rfl, ⟨_, _, hE.2.1, Nat.le_refl _, Nat.zero_le _, fun h => absurd h (by omega)⟩, hE.2.2⟩
  · skip
    go_enter Tryz.func44, Tryz.ntmps44
    go_wp2
    have hE := word_end w W2 rb s said start rd (x.off + x.text.length) _ (.slice (some ⟨b, o + 4, none⟩) m (c - 1)) ((x.off : Int) + (x.text.length : Int)) (by omega) (str x.text) x.off n x.col _ rfl HE.out.1 HE.out.2.1 hrb HB2.out _ rfl
    exact bodyPost_ret (results_cell_row rfl _ _ w.heap.size _ _ _ _ rfl hE.1 Tryz.underlying93 rfl infoWord4) rfl ⟨rfl, ⟨_, _, hE.2.1, by omega, by omega, fun _ => rfl⟩, hE.2.2⟩
end Go.Proofs.YthmhcpghfbifiaaGreatDoor

/- Texts of events: what a line says, its event, the events of all lines: plain mathematics. -/
namespace Go.Proofs.YthmhcpghfbifiaaGreatDoor
open Go.RowKit

/-- What a line says ahead of its remark. -/
def aheadL (l : List UInt8) : List UInt8 := l.takeWhile (fun b => b != 35)
theorem take_no35 (l : List UInt8) (hl : l ≠ []) (h : rv l ≠ 35) : ∀ b ∈ l.take (wd l), b ≠ 35 := by
  intro b hb e
  subst e
  obtain ⟨c, t, rfl⟩ : ∃ c t, l = c :: t := by cases l with | nil => exact absurd rfl hl | cons c t => exact ⟨c, t, rfl⟩
  by_cases hc : c.toNat < 128
  · obtain ⟨h1, h2⟩ := rv_ascii c t hc
    rw [h2] at hb
    simp at hb
    subst hb
    exact h (by rw [h1]; rfl)
  · have hw : wd (c :: t) = (Lib.decodeL (c :: t)).2 := rfl
    rw [hw] at hb
    rw [Lib.decodeL_N] at hb
    have k0 : ((c :: t).getD 0 0) = c := by simp
    rw [k0] at hb
    rcases Lib.decodeN_shape (c :: t).length c.toNat ((c :: t).getD 1 0).toNat ((c :: t).getD 2 0).toNat ((c :: t).getD 3 0).toNat with ⟨g, e⟩ | ⟨c1, c2, c3, cv, e⟩ | ⟨c1, c2, c3, c4, cv, cs, e⟩ | ⟨c1, c2, c3, c4, c5, cv, cw, e⟩ | e
    · omega
    · rw [e] at hb
      dsimp only at hb
      rw [Lib.takeB _ c2] at hb
      simp only [List.mem_cons, List.not_mem_nil, or_false, k0] at hb
      rcases hb with e | e
      · rw [← e] at hc; exact hc (by decide)
      · rw [← e] at c3; exact absurd c3 (by decide)
    · rw [e] at hb
      dsimp only at hb
      rw [Lib.takeC _ c2] at hb
      simp only [List.mem_cons, List.not_mem_nil, or_false, k0] at hb
      rcases hb with e | e | e
      · rw [← e] at hc; exact hc (by decide)
      · rw [← e] at c3; exact absurd c3 (by decide)
      · rw [← e] at c4; exact absurd c4 (by decide)
    · rw [e] at hb
      dsimp only at hb
      rw [Lib.takeD _ c2] at hb
      simp only [List.mem_cons, List.not_mem_nil, or_false, k0] at hb
      rcases hb with e | e | e | e
      · rw [← e] at hc; exact hc (by decide)
      · rw [← e] at c3; exact absurd c3 (by decide)
      · rw [← e] at c4; exact absurd c4 (by decide)
      · rw [← e] at c5; exact absurd c5 (by decide)
    · rw [e] at hb
      dsimp only at hb
      simp at hb
      rw [← hb] at hc
      exact hc (by decide)
theorem ahead_skip : ∀ (m t : List UInt8), (∀ b ∈ m, b ≠ 35) → aheadL (m ++ t) = m ++ aheadL t
  | [], _, _ => rfl
  | b :: m, t, h => by
    have hb : b ≠ 35 := h b (by simp)
    have := ahead_skip m t (fun c hc => h c (by simp [hc]))
    unfold aheadL at this ⊢
    simp [hb, this]
theorem ahead_rune (l : List UInt8) (hl : l ≠ []) (h : rv l ≠ 35) : aheadL l = l.take (wd l) ++ aheadL (l.drop (wd l)) := by
  conv => lhs; rw [← List.take_append_drop (wd l) l]
  exact ahead_skip _ _ (take_no35 l hl h)
theorem ahead_35 (l : List UInt8) (hl : l ≠ []) (h : rv l = 35) : aheadL l = [] := by
  obtain ⟨c, t, rfl⟩ : ∃ c t, l = c :: t := by cases l with | nil => exact absurd rfl hl | cons c t => exact ⟨c, t, rfl⟩
  have hc := (rv_low_iff c t 35 (by decide)).1 h
  have e : c = 35 := UInt8.toNat_inj.1 (by rw [hc]; rfl)
  subst e
  simp [aheadL]
theorem ahead_len (l : List UInt8) : (aheadL l).length ≤ l.length := (List.takeWhile_sublist _).length_le
/-- Without the blanks behind it. -/
def trimR (l : List UInt8) : List UInt8 := Lib.trimRightS l [32, 9, 13]
theorem trimR_len (l : List UInt8) : (trimR l).length ≤ l.length := by
  unfold trimR Lib.trimRightS
  rw [List.length_reverse]
  have := (List.dropWhile_sublist (l := l.reverse) (fun b => ([32, 9, 13] : List UInt8).contains b)).length_le
  rw [List.length_reverse] at this
  exact this

/-- A name, of a process or an operation (p), or of an object; the words that are left; how far was read. -/
def fitB (p : Bool) (t : List UInt8) : Bool := if p then symB (bsN t) else anyB t
def nameM6 (p : Bool) (said : List UInt8) : List Wd → Except (Int × Nat) (List UInt8 × List Wd × Nat)
  | [] => .error (60, said.length)
  | x :: r => if fitB p x.text = true then .ok (x.text, r, x.off + x.text.length) else .error (21, x.off)
/-- The value, which is all that is left. -/
def valM6 (said : List UInt8) (rd : Nat) : Except (Int × Nat) Vl :=
  match parM (trimR (said.drop rd)) with
  | .ok v => .ok v
  | .error (c, o) => if clamp (str (trimR (said.drop rd))) o = (trimR (said.drop rd)).length then .error (c, said.length) else .error (c, rd + clamp (str (trimR (said.drop rd))) o)
def invL : List UInt8 := [105, 110, 118]
def resL : List UInt8 := [114, 101, 115]
/-- The event of a line. -/
def evM6 (said : List UInt8) (n start : Nat) : List Wd → Except (Int × Nat) Evn
  | [] => .error (60, 0)
  | x :: r =>
    if x.text = invL then
      match nameM6 true said r with
      | .error e => .error e
      | .ok (p, r1, _) => match nameM6 false said r1 with
        | .error e => .error e
        | .ok (o, r2, _) => match nameM6 true said r2 with
          | .error e => .error e
          | .ok (q, _, rd) => match valM6 said rd with
            | .error e => .error e
            | .ok v => .ok ⟨1, p, o, q, v, ((start + x.off : Nat) : Int), (n : Int), (x.col : Int)⟩
    else if x.text = resL then
      match nameM6 true said r with
      | .error e => .error e
      | .ok (p, _, rd) => match valM6 said rd with
        | .error e => .error e
        | .ok v => .ok ⟨2, p, [], [], v, ((start + x.off : Nat) : Int), (n : Int), (x.col : Int)⟩
    else .error (60, x.off)
/-- The events of lines, behind those that there are. -/
def goM6 : List Evn → Nat → List (Nat × List UInt8) → Except (Int × Nat) (List Evn)
  | acc, _, [] => .ok acc
  | acc, start, x :: more =>
    if wds 0 0 false (aheadL x.2) = [] then goM6 acc (start + x.2.length + 1) more
    else match evM6 (aheadL x.2) x.1 start (wds 0 0 false (aheadL x.2)) with
      | .error (c, o) => .error (c, start + o)
      | .ok e => goM6 (acc ++ [e]) (start + x.2.length + 1) more
def parsesM (s : List UInt8) : Except (Int × Nat) (List Evn) := goM6 [] 0 (lines s)
end Go.Proofs.YthmhcpghfbifiaaGreatDoor

/- The words of a line that are left; the next name of a line. -/
namespace Go.Proofs.YthmhcpghfbifiaaGreatDoor
open Go.RowKit

/-- The words of a line that are left, as they lie. -/
def WsAt (w : World) (rb B : Nat) (ws : Value) (n : Int) (l : List Wd) : Prop :=
  ∃ a c, ws = .slice a l.length c ∧ l.length ≤ c ∧ c ≤ maxLen ∧ l.length ≤ 1048576 ∧ (∀ x ∈ l, x.off + x.text.length ≤ 1048576) ∧
    (0 < l.length → ∃ b o, a = some ⟨b, o, none⟩ ∧ b < B ∧ b ≠ rb ∧ ∀ j v, (wordCells n l)[j]? = some v → w.cell? ⟨b, o + j, none⟩ = some v)
theorem WsAt.kept {w w' : World} {rb B : Nat} {ws : Value} {n : Int} {l : List Wd} (h : WsAt w rb B ws n l) (hk : ∀ k, k < B → k ≠ rb → w'.heap[k]? = w.heap[k]?) : WsAt w' rb B ws n l := by
  obtain ⟨a, c, e, h1, h2, h3, h4, h5⟩ := h
  refine ⟨a, c, e, h1, h2, h3, h4, fun h0 => ?_⟩
  obtain ⟨b, o, ea, hb, hne, hc⟩ := h5 h0
  exact ⟨b, o, ea, hb, hne, fun j v hv => (World.cell?_of_block (hk b hb hne)).trans (hc j v hv)⟩
theorem WsAt.grown {w w' : World} {rb B : Nat} {ws : Value} {n : Int} {l : List Wd} (h : WsAt w rb B ws n l) (hB : B ≤ w.heap.size) (hg : w.grownBy w' (some rb)) : WsAt w' rb B ws n l :=
  h.kept fun k hk hne => hg.block k (by omega) (by simpa using hne)
theorem wordCells_cons (n : Int) (x : Wd) (l : List Wd) : wordCells n (x :: l) = .string (str x.text) :: .int .i64 x.off :: .int .i64 n :: .int .i64 x.col :: wordCells n l := rfl
theorem wordN_k (w : World) (rb B : Nat) (s said : List UInt8) (start rd : Nat) (n : Int) (ws : Value) (x : Wd) (l : List Wd) (hB : B ≤ w.heap.size) (hP : LrAt w rb s start said ws rd) (hW : WsAt w rb B ws n (x :: l)) :
    Calls Tryz.prog 44 #[.pointer (some ⟨rb, 0, none⟩)] w fun e w' => e = .returned (.agg #[.string (str x.text), .int .i64 x.off, .int .i64 n, .int .i64 x.col]) ∧ (∃ ws', LrAt w' rb s start said ws' (x.off + x.text.length) ∧ WsAt w' rb B ws' n l) ∧ w.grownBy w' (some rb) := by
  obtain ⟨a, c, rfl, h1, h2, h3, h4, h5⟩ := hW
  obtain ⟨b, o, rfl, hb, hne, hc⟩ := h5 (by simp)
  simp only [List.length_cons] at h1 h3
  refine (word6_k w rb s said start rd b o l.length c n x hP h1 h2 (by omega) (hc 0 _ rfl) (hc 1 _ rfl) (hc 2 _ rfl) (hc 3 _ rfl) (by omega) hne (h4 x (by simp))).mono ?_
  rintro e w' ⟨he, ⟨a', c', hL, h6, h7, h8⟩, hg⟩
  refine ⟨he, ⟨_, hL, a', c', rfl, h6, h7, by omega, fun y hy => h4 y (by simp [hy]), fun h0 => ⟨b, o + 4, h8 h0, hb, hne, fun j v hv => ?_⟩⟩, hg⟩
  have e4 : o + 4 + j = o + (j + 4) := by omega
  rw [e4]
  exact (World.cell?_of_block (hg.block b (by omega) (by simpa using hne))).trans (hc (j + 4) v (by rw [wordCells_cons]; exact hv))
/-- What name comes to. -/
def NmR (w : World) (rb B : Nat) (s : List UInt8) (start : Nat) (said : List UInt8) (n : Int) (p : Bool) (l : List Wd) (e : Ending) (w' : World) : Prop :=
  w.grownBy w' (some rb) ∧ match nameM6 p said l with
  | .ok (t, l', rd') => e = .returned (.string (str t)) ∧ ∃ ws', LrAt w' rb s start said ws' rd' ∧ WsAt w' rb B ws' n l'
  | .error (c, o) => e = gaveIn s c (start + o)
theorem fit6_k (p : Bool) (t : List UInt8) (ht : t.length ≤ 1048576) (w : World) (hT : Tabs w) :
    Calls Tryz.prog (if p = true then 28 else 29) #[.string (str t)] w fun e w' => e = .returned (.bool (fitB p t)) ∧ Below w.heap.size w w' := by
  cases p
  · exact anyName6_k t (by omega) w hT
  · exact plainName6_k t (by omega) w hT
set_option maxRecDepth 100000 in
set_option maxHeartbeats 2000000 in
theorem name6_k (w : World) (rb B : Nat) (s said : List UInt8) (start rd : Nat) (n : Int) (ws : Value) (p : Bool) (l : List Wd) (hs : s.length ≤ 1000000000000) (hst : start + said.length ≤ 1000000000001) (hl : ∀ x ∈ l, start + x.off ≤ 1000000000001) (hT : Tabs w) (ho : rb ≠ 2 ∧ rb ≠ 0) (hB : B ≤ w.heap.size) (hP : LrAt w rb s start said ws rd) (hW : WsAt w rb B ws n l) :
    Calls Tryz.prog 45 #[.pointer (some ⟨rb, 0, none⟩), .func (.func (if p = true then 28 else 29)) #[] #[]] w fun e w' => NmR w rb B s start said n p l e w' := by
  have hrb : rb < w.heap.size := (Array.getElem?_eq_some_iff.1 hP).1
  unfold NmR
  cases l with
  | nil =>
    obtain ⟨a, c, rfl, h1, h2, h3, h4, h5⟩ := hW
    simp only [nameM6]
    have u2 := cells_at hP 2 _ rfl
    have u3 : w.cell? ⟨rb, 3, none⟩ = some (.slice a 0 c) := cells_at hP 3 _ rfl
    have hsz : (str said).size = said.length := str_size _
    have HG := hide (giveUp6_k w rb s said start rd said.length _ 60 hP hs (by omega))
    clear hP h1 h2 h3 h4 h5 hT hl
    cases p
    all_goals
      go_enter Tryz.func45, Tryz.ntmps45
      go_wp2_with (go_at_call 46; refine HG.out.mono ?_; clear HG; rintro e w1 ⟨rfl, b1⟩; have B1 := hide b1; clear b1)
      exact ⟨rfl, grown_of_below B1.out, rfl⟩
  | cons x r =>
    have HBB := hide hB
    have HW1 := hide (wordN_k w rb B s said start rd n ws x r hB hP hW)
    obtain ⟨a, c, rfl, h1, h2, h3, h4, _⟩ := hW
    have hx := h4 x (by simp)
    have hxo := hl x (by simp)
    have u3 : w.cell? ⟨rb, 3, none⟩ = some (.slice a (r.length + 1) c) := cells_at hP 3 _ rfl
    have hne : (((r.length + 1 : Nat) : Int) == 0) = false := by simp; omega
    have HF := hide (fun (W : World) (g : w.grownBy W (some rb)) => fit6_k p x.text (by omega) W (hT.grown g (Ne.symm ho.1) (Ne.symm ho.2)))
    have HGU := hide (fun (W : World) (ws' : Value) (hp : LrAt W rb s start said ws' (x.off + x.text.length)) => giveUp6_k W rb s said start _ x.off ws' 21 hp hs (by omega))
    simp only [nameM6]
    clear hP h1 h2 h3 h4 hT hl ho hx hxo hB
    generalize fitB p x.text = b at *
    cases b
    · rw [if_neg Bool.false_ne_true]
      cases p
      all_goals
        simp only [Bool.false_eq_true, reduceIte] at HF
        go_enter Tryz.func45, Tryz.ntmps45
        go_wp2_with (first
          | (go_at_call 44; refine HW1.out.mono ?_; clear HW1; rintro e w1 ⟨rfl, ⟨ws1, p1, q1⟩, g1⟩; have e2 := World.alloc_heap_new w1 (.cells #[.string (str x.text), .int .i64 x.off, .int .i64 n, .int .i64 x.col] 93); have bA : Below w1.heap.size w1 (w1.alloc (.cells #[.string (str x.text), .int .i64 x.off, .int .i64 n, .int .i64 x.col] 93)) := alloc_v (Below.refl _ _) _; have y0 := cells_at e2 0 _ rfl; have HF2 := hide (HF.out _ (grown_more g1 (grown_of_below bA))); have E2 := hide e2; have P1 := hide p1; have G1 := hide g1; have BA := hide bA; have L1 := hide (show rb < w1.heap.size from (Array.getElem?_eq_some_iff.1 p1).1); clear e2 p1 g1 q1 bA HF)
          | ((first | go_at_call 28 | go_at_call 29); refine HF2.out.mono ?_; clear HF2; rintro e w3 ⟨rfl, b3⟩; have y1 := cells_at ((b3.block _ (show w1.heap.size < (w1.alloc _).heap.size by simp)).trans E2.out) 1 _ rfl; have HG3 := hide (HGU.out w3 ws1 ((b3.block _ (show rb < (w1.alloc _).heap.size by have := L1.out; simp; omega)).trans ((BA.out.block _ L1.out).trans P1.out))); have B3 := hide b3; clear b3 HGU)
          | (go_at_call 46; refine HG3.out.mono ?_; clear HG3; rintro e w4 ⟨rfl, b4⟩; have B4 := hide b4; clear b4))
        exact ⟨rfl, grown_more G1.out (grown_of_below (trans_v BA.out (trans_v B3.out B4.out))), rfl⟩
    · rw [if_pos (rfl : true = true)]
      cases p
      all_goals
        simp only [Bool.false_eq_true, reduceIte] at HF
        go_enter Tryz.func45, Tryz.ntmps45
        go_wp2_with (first
          | (go_at_call 44; refine HW1.out.mono ?_; clear HW1; rintro e w1 ⟨rfl, ⟨ws1, p1, q1⟩, g1⟩; have e2 := World.alloc_heap_new w1 (.cells #[.string (str x.text), .int .i64 x.off, .int .i64 n, .int .i64 x.col] 93); have bA : Below w1.heap.size w1 (w1.alloc (.cells #[.string (str x.text), .int .i64 x.off, .int .i64 n, .int .i64 x.col] 93)) := alloc_v (Below.refl _ _) _; have y0 := cells_at e2 0 _ rfl; have HF2 := hide (HF.out _ (grown_more g1 (grown_of_below bA))); have E2 := hide e2; have P1 := hide p1; have G1 := hide g1; have Q1 := hide q1; have BW1 := hide (show B ≤ w1.heap.size from Nat.le_trans HBB.out g1.size); have BA := hide bA; have L1 := hide (show rb < w1.heap.size from (Array.getElem?_eq_some_iff.1 p1).1); clear e2 p1 g1 q1 bA HF)
          | ((first | go_at_call 28 | go_at_call 29); refine HF2.out.mono ?_; clear HF2; rintro e w3 ⟨rfl, b3⟩; have z0 := cells_at ((b3.block _ (show w1.heap.size < (w1.alloc _).heap.size by simp)).trans E2.out) 0 _ rfl; have B3 := hide b3; clear b3 HGU))
        go_ret
        exact ⟨grown_more G1.out (grown_of_below (trans_v BA.out B3.out)), rfl, _, (B3.out.block _ (show rb < (w1.alloc _).heap.size by have := L1.out; simp; omega)).trans ((BA.out.block _ L1.out).trans P1.out), Q1.out.grown BW1.out (grown_of_below (trans_v BA.out B3.out))⟩
end Go.Proofs.YthmhcpghfbifiaaGreatDoor
