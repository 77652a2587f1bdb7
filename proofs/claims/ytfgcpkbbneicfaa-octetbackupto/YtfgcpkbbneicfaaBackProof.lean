/- For all rows of pieces of bulk at most 1048576: what is written end to end is read again, End is OK, and sealed it opens: OctetBack answers true. The condition: that bulk. -/
import Derived.Test.YtfgcpkbbneicfaaBackWalk
import Derived.Test.YtfgcpkbbneicfaaBulk
import Derived.Lib.SmallJoins
namespace Go.Proofs.Ytfgcpkbbneicfaa
open Go.ChangeShapes Go.WideShapes Go.ChangeAt Go.RowKit
open Go.Lib (uvarint uvarint_small uvarint_big uvarint_length64 uvarint_pos)

theorem cells_piece : Try.prog.cellsOf 63 = 4 := by kernel_rfl
theorem cells_int1 : Try.prog.cellsOf 3 = 1 := by kernel_rfl
theorem cells_u64 : Try.prog.cellsOf 22 = 1 := by kernel_rfl
theorem cells_i64 : Try.prog.cellsOf 2 = 1 := by kernel_rfl
theorem cells_string : Try.prog.cellsOf 9 = 1 := by kernel_rfl

theorem Pc.bytes_le (p : Pc) : p.bytes.length ≤ 10 + p.s.size := by
  have h1 := uvarint_length64 p.hu
  have h2 := uvarint_length64 (zz_lt p.v p.h0 p.h1)
  have h3 := uvarint_length64 (x := p.s.size) (by have := p.hs; omega)
  have h4 : (txt p.s).length = (uvarint p.s.size).length + p.s.size := by unfold txt; rw [List.length_append, size_eq]
  unfold Pc.bytes
  split
  · simp; omega
  · split
    · omega
    · split
      · omega
      · split
        · omega
        · simp

/-- One piece that came in. -/
theorem open_piece {H : Type} {enc : TypeId × Value → H} {W : World} {cs : List Value} {d : DataW H} {p : List MemPlace} {fuel : Nat}
    (hf : DataW.trod enc Try.prog W 0 (fun _ => true) true fuel 63 cs = some (d, p)) (hd : Rows.uptoBulk d ≤ 1048576) :
    ∃ q : Pc, cs = [.int .i64 q.kind, .int .u64 q.u, .int .i64 q.v, .string q.s] ∧ q.s.size + 5 ≤ Rows.uptoBulk d := by
  obtain ⟨y0, y1, y2, y3, n, hx, hl, h0, h1, h2, h3⟩ := Go.Joins.trod_struct4 Try.underlying63 hf
  rw [cells_piece] at hl
  match cs, hl with
  | [c0, c1, c2, c3], _ =>
    rw [cells_int1] at h0
    rw [cells_u64] at h1
    rw [cells_i64] at h2
    rw [cells_string] at h3
    have h0' : DataW.trod enc Try.prog W 0 (fun _ => true) true n 3 [c0] = some y0 := h0
    have h1' : DataW.trod enc Try.prog W 0 (fun _ => true) true n 22 [c1] = some y1 := h1
    have h2' : DataW.trod enc Try.prog W 0 (fun _ => true) true n 2 [c2] = some y2 := h2
    have h3' : DataW.trod enc Try.prog W 0 (fun _ => true) true n 9 [c3] = some y3 := h3
    obtain ⟨k, e0, r0, _⟩ := DataW.trod_int Try.underlying3 h0'
    obtain ⟨u, e1, r1, wu⟩ := DataW.trod_int Try.underlying22 h1'
    obtain ⟨v, e2, r2, wv⟩ := DataW.trod_int Try.underlying2 h2'
    obtain ⟨s, e3, r3, _⟩ := DataW.trod_string Try.underlying9 h3'
    have bu := bounds_u64 wu
    have bv := bounds_i64 wv
    simp only [List.cons.injEq, and_true] at e0 e1 e2 e3
    subst e0 e1 e2 e3 r0 r1 r2 r3
    have hdd : d = _ := congrArg Prod.fst hx
    have hb : s.size + 5 ≤ Rows.uptoBulk d := by
      rw [hdd]
      simp only [Rows.uptoBulk, Rows.uptoBulkAll, size_eq]
      omega
    obtain ⟨m, rfl⟩ : ∃ m : Nat, u = (m : Int) := ⟨u.toNat, by omega⟩
    exact ⟨⟨k, m, v, s, by omega, bv.1, bv.2, by omega⟩, rfl, hb⟩

theorem bytes_bulk {H : Type} (F : Nat → Pc) (D : Nat → DataW H) : ∀ is : List Nat, (∀ i ∈ is, (F i).s.size + 5 ≤ Rows.uptoBulk (D i)) → ((is.map F).flatMap Pc.bytes).length ≤ 2 * Rows.uptoBulkAll (is.map D)
  | [], _ => by simp [Rows.uptoBulkAll]
  | i :: r, h => by
    have h1 := h i (by simp)
    have h2 := bytes_bulk F D r (fun j hj => h j (by simp [hj]))
    have h3 := (F i).bytes_le
    simp only [List.map_cons, List.flatMap_cons, List.length_append, Rows.uptoBulkAll]
    omega

theorem open_pieces {H : Type} {enc : TypeId × Value → H} {W : World} {a : Option Addr} {len cap : Nat} {d : DataW H} {p : List MemPlace} {fuel : Nat}
    (hf : DataW.trod enc Try.prog W 0 (fun _ => true) true fuel 61 (Value.cells (.slice a len cap)).toList = some (d, p)) (hd : Rows.uptoBulk d ≤ 1048576) :
    ∃ ps : List Pc, ps.length = len ∧ Pcs W a ps ∧ ps.length ≤ 1048576 ∧ (de ps 0).length ≤ 2097152 := by
  rcases Go.Deep.open_slice Try.underlying61 hf with ⟨hcs, _⟩ | ⟨x, l, c, m, n, D, Pl, hcs, _, hl, hm, hmm, hx, hV⟩
  · simp [Value.cells] at hcs
    obtain ⟨rfl, rfl, rfl⟩ := hcs
    exact ⟨[], rfl, fun i hi => by simp at hi, by simp, by simp [de]⟩
  · simp [Value.cells] at hcs
    obtain ⟨rfl, rfl, rfl⟩ := hcs
    simp only [if_true] at hmm
    subst hmm
    rw [cells_piece] at hV
    have hdd : d = _ := congrArg Prod.fst hx
    have hb : Rows.uptoBulkAll ((List.range len).map D) ≤ Rows.uptoBulk d := by
      rw [hdd]
      simp only [Rows.uptoBulk]
      omega
    have hpart : ∀ (is : List Nat) i, i ∈ is → Rows.uptoBulk (D i) ≤ Rows.uptoBulkAll (is.map D) := fun is => by
      induction is with
      | nil => intro i hi; cases hi
      | cons j r ih =>
        intro i hi
        simp only [List.map_cons, Rows.uptoBulkAll]
        rcases List.mem_cons.1 hi with e | e
        · subst e; omega
        · have := ih i e; omega
    have hall : ∀ i, i < len → ∃ q : Pc, W.cells? 0 (x.add (i * 4)) 4 = some [.int .i64 q.kind, .int .u64 q.u, .int .i64 q.v, .string q.s] ∧ q.s.size + 5 ≤ Rows.uptoBulk (D i) := fun i hi => by
      obtain ⟨cs', h1, h2⟩ := hV i (by omega)
      have h3 := hpart (List.range len) i (List.mem_range.2 hi)
      obtain ⟨q, e, h4⟩ := open_piece h2 (by omega)
      exact ⟨q, by rw [h1, e], h4⟩
    obtain ⟨F, hF⟩ : ∃ F : Nat → Pc, ∀ i, i < len → W.cells? 0 (x.add (i * 4)) 4 = some [.int .i64 (F i).kind, .int .u64 (F i).u, .int .i64 (F i).v, .string (F i).s] ∧ (F i).s.size + 5 ≤ Rows.uptoBulk (D i) :=
      ⟨fun i => if h : i < len then (hall i h).choose else ⟨0, 0, 0, ByteArray.empty, by decide, by decide, by decide, by decide⟩, fun i hi => by simp only [hi, dif_pos]; exact (hall i hi).choose_spec⟩
    refine ⟨(List.range len).map F, by simp, fun i hi => ?_, ?_, ?_⟩
    · have hi' : i < len := by simpa using hi
      obtain ⟨h1, _⟩ := hF i hi'
      have h0 := (hF 0 (by omega)).1
      obtain ⟨b, off, spot⟩ := x
      have hspot : spot = none := by
        have h := (World.cells?_some h0).2.2 0 (by omega)
        simpa [Addr.add] using World.cell?_spot h
      subst hspot
      have hc := (World.cells?_some h1).2.2
      simp only [Addr.add_lit] at hc
      have eg : ((List.range len).map F)[i] = F i := by simp
      rw [eg]
      exact ⟨b, off, rfl, hc 0 (by omega), hc 1 (by omega), hc 2 (by omega), hc 3 (by omega)⟩
    · have := bulk_length ((List.range len).map D)
      simp only [List.length_map, List.length_range] at this ⊢
      omega
    · have := bytes_bulk F D (List.range len) (fun i hi => (hF i (List.mem_range.1 hi)).2)
      show (((List.range len).map F).drop 0 |>.flatMap Pc.bytes).length ≤ 2097152
      rw [List.drop_zero]
      omega
namespace octetBack
set_option maxRecDepth 100000 in
theorem lifted (os : Os) (started : os.Started) (H : Type) (enc : TypeId × Value → H) (F : Stop.Interp) :
    ReturnsInHanded {} Try.checked os 5 .any ((Rows.OpenSpec.upto Rows.octetBackSpec).pre6 enc Try.prog Try.f5 Rows.octetBackUptoRow.domain false) (((Rows.OpenSpec.upto Rows.octetBackSpec).at F).post enc Try.prog Try.f5 false true false false) := by
  refine returnsInHanded_of_cond (C := Try.checked) (s := Rows.OpenSpec.upto Rows.octetBackSpec) (k := Rows.uptoSmall) rfl own started (by kernel_rfl) Try.func5
    (OpenSpec.witness (enc := enc) (C := Try.checked) (s := Rows.OpenSpec.upto Rows.octetBackSpec) (k := Rows.uptoSmall) rfl false ⟨#[], #[.slice none 0 0], []⟩ 8 (by kernel_rfl) (by kernel_rfl) (by kernel_rfl)
      (x := ([.nil], [], [])) (by kernel_rfl) rfl (by kernel_rfl)) ?_
  intro W base args ds gs before hval0 hW _ hk _
  have hval : ∀ (j : Nat) t v, Try.f5.params[j]? = some t → args[j]? = some v → Value.okWide Try.prog W .any base t v := hval0
  have hW' := hW
  obtain ⟨p, q, hA0, hV, rfl, hfz, hnd⟩ := hW
  have hA : DataW.TrodAll enc Try.prog W 0 (fun _ => true) true Try.f5.params.toList args.toList ds p := hA0
  rw [Try.params5] at hA hval
  obtain ⟨v0, vs0, d0, ds0, p0, q0, hargs, rfl, rfl, h0, r0⟩ := trodAll_cons hA
  obtain ⟨rfl, rfl, rfl⟩ := trodAll_nil r0
  obtain rfl : args = #[v0] := by cases args; simp_all
  obtain ⟨rfl, rfl⟩ := trodVars_none hV
  obtain ⟨a0, len0, cap0, rfl⟩ := okWide_slice Try.underlying61 (hval 0 61 v0 rfl rfl)
  have hbulk : Rows.uptoBulkAll [d0] ≤ 1048576 := by
    have h : Rows.uptoBulkAll ([d0] ++ []) ≤ 1048576 := of_decide_eq_true hk
    simpa using h
  simp only [Rows.uptoBulkAll] at hbulk
  have k0 := h0
  have lt0 : ∀ x ∈ p0, x.block < W.heap.size := by obtain ⟨m, hm⟩ := k0; exact DataW.trod_lt m _ _ _ hm
  obtain ⟨fuel, hf⟩ := h0
  obtain ⟨ps, hps, hp1, hp2, hp3⟩ := open_pieces hf (by omega)
  subst hps
  clear hA0 hval0
  refine (back_walk a0 cap0 ps W hp1 hp2 (by omega)).mono fun e W' ⟨he, bel⟩ => ?_
  subst he
  exact ⟨_, rfl, _, _, _, [], _, [], hW', trodAll_mk1 (shut_bool Try.underlying4 _), (trodAll_cons_mk (Below.trod laidOut (by kernel_rfl) (of_decide_eq_true (by kernel_rfl)) k0 bel lt0) trodAll_mk0), rfl, bel.frame _, fun h => by cases h⟩

theorem over : Rows.octetBackUptoRow.holds Try.pinned (Rows.OpenSpec.upto Rows.octetBackSpec) :=
  OpenClaim.holds_of_cond 5 Try.f5 rfl rfl rfl rfl rfl rfl rfl ⟨rfl, rfl, rfl, rfl, rfl⟩ rfl rfl rfl rfl rfl (by kernel_rfl) Try.func5 (by kernel_rfl)
    (of_decide_eq_true (by kernel_rfl)) (by unfold Func.isWrapper; first | (rw [if_pos (by decide +kernel)]; kernel_rfl) | (rw [if_neg (by decide +kernel)]; exact ⟨rfl, rfl⟩))
    (fun os started H enc _ F => lifted os started H enc F)
end octetBack

theorem octetBack_upto : Rows.OctetBackUptoSaid := octetBack.over
#print axioms octetBack_upto
end Go.Proofs.Ytfgcpkbbneicfaa
