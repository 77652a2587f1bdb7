/- For all parts and all bytes of bulk at most 1048576 together: Crc of the parts is the document's, Seal answers the document's bytes, and Open answers as the document says: OctetSums answers true. The condition: that bulk. -/
import Derived.Test.YtfgcpkbbneicfaaSumsWalk
import Derived.Test.YtfgcpkbbneicfaaBulk
namespace Go.Proofs.Ytfgcpkbbneicfaa
open Go.ChangeShapes Go.WideShapes Go.ChangeAt Go.RowKit

theorem cells_row : Try.prog.cellsOf 23 = 1 := by kernel_rfl

theorem open_parts {H : Type} {enc : TypeId × Value → H} {W : World} {a : Option Addr} {len cap : Nat} {d : DataW H} {p : List MemPlace} {fuel : Nat}
    (hf : DataW.trod enc Try.prog W 0 (fun _ => true) true fuel 29 (Value.cells (.slice a len cap)).toList = some (d, p)) :
    ∃ ls : List (List UInt8), ls.length = len ∧ Parts W a ls ∧ ls.length ≤ Rows.uptoBulk d ∧ ls.flatten.length ≤ Rows.uptoBulk d := by
  rcases Go.Deep.open_slice1 Try.underlying29 cells_row hf with ⟨hcs, _⟩ | ⟨x, l, c, m, n, V, D, Pl, hcs, _, hl, hm, hmm, hx, hV⟩
  · simp [Value.cells] at hcs
    obtain ⟨rfl, rfl, rfl⟩ := hcs
    exact ⟨[], rfl, fun i hi => by simp at hi, by simp, by simp⟩
  · simp [Value.cells] at hcs
    obtain ⟨rfl, rfl, rfl⟩ := hcs
    simp only [if_true] at hmm
    subst hmm
    have hd : d = _ := congrArg Prod.fst hx
    have hall : ∀ i, i < len → ∃ l : List UInt8, (∃ aa cc, V i = .slice aa l.length cc ∧ Bytes W (.slice aa l.length cc) l) ∧ l.length ≤ Rows.uptoBulk (D i) := fun i hi => by
      obtain ⟨h1, h2⟩ := hV i (by omega)
      obtain ⟨aa, cc, l, e, h3, h4⟩ := open_bytes_bulk h2
      simp at e
      exact ⟨l, ⟨aa, cc, e, h3.plain⟩, h4⟩
    obtain ⟨F, hF⟩ : ∃ F : Nat → List UInt8, ∀ i, i < len → (∃ aa cc, V i = .slice aa (F i).length cc ∧ Bytes W (.slice aa (F i).length cc) (F i)) ∧ (F i).length ≤ Rows.uptoBulk (D i) :=
      ⟨fun i => if h : i < len then (hall i h).choose else [], fun i hi => by simp only [hi, dif_pos]; exact (hall i hi).choose_spec⟩
    have hb : Rows.uptoBulkAll ((List.range len).map D) ≤ Rows.uptoBulk d := by
      rw [hd]
      simp only [Rows.uptoBulk]
      omega
    refine ⟨(List.range len).map F, by simp, fun i hi => ?_, ?_, ?_⟩
    · have hi' : i < len := by simpa using hi
      obtain ⟨⟨aa, cc, e, hby⟩, _⟩ := hF i hi'
      have h1 := (hV i (by omega)).1
      obtain ⟨b, off, spot⟩ := x
      have hspot : spot = none := by simpa [Addr.add] using World.cell?_spot (hV 0 (by omega)).1
      subst hspot
      rw [Addr.add_lit] at h1
      have eg : ((List.range len).map F)[i] = F i := by simp
      rw [eg]
      exact ⟨b, off, aa, cc, rfl, by rw [h1, e], hby⟩
    · have := bulk_length ((List.range len).map D)
      simp only [List.length_map, List.length_range] at this ⊢
      omega
    · exact Nat.le_trans (flat_bulk F D (List.range len) (fun i hi => (hF i (List.mem_range.1 hi)).2)) hb

namespace octetSums
set_option maxRecDepth 100000 in
theorem lifted (os : Os) (started : os.Started) (H : Type) (enc : TypeId × Value → H) (F : Stop.Interp) :
    ReturnsInHanded {} Try.checked os 7 .any ((Rows.OpenSpec.upto Rows.octetSumsSpec).pre6 enc Try.prog Try.f7 Rows.octetSumsUptoRow.domain false) (((Rows.OpenSpec.upto Rows.octetSumsSpec).at F).post enc Try.prog Try.f7 false true false false) := by
  refine returnsInHanded_of_cond (C := Try.checked) (s := Rows.OpenSpec.upto Rows.octetSumsSpec) (k := Rows.uptoSmall) rfl own started (by kernel_rfl) Try.func7
    (OpenSpec.witness (enc := enc) (C := Try.checked) (s := Rows.OpenSpec.upto Rows.octetSumsSpec) (k := Rows.uptoSmall) rfl false ⟨#[], #[.slice none 0 0, .slice none 0 0], []⟩ 8 (by kernel_rfl) (by kernel_rfl) (by kernel_rfl)
      (x := ([.nil, .nil], [], [])) (by kernel_rfl) rfl (by kernel_rfl)) ?_
  intro W base args ds gs before hval0 hW _ hk _
  have hval : ∀ (j : Nat) t v, Try.f7.params[j]? = some t → args[j]? = some v → Value.okWide Try.prog W .any base t v := hval0
  have hW' := hW
  obtain ⟨p, q, hA0, hV, rfl, hfz, hnd⟩ := hW
  have hA : DataW.TrodAll enc Try.prog W 0 (fun _ => true) true Try.f7.params.toList args.toList ds p := hA0
  rw [Try.params7] at hA hval
  obtain ⟨v0, vs0, d0, ds0, p0, q0, hargs, rfl, rfl, h0, r0⟩ := trodAll_cons hA
  obtain ⟨v1, vs1, d1, ds1, p1, q1, rfl, rfl, rfl, h1, r1⟩ := trodAll_cons r0
  obtain ⟨rfl, rfl, rfl⟩ := trodAll_nil r1
  obtain rfl : args = #[v0, v1] := by cases args; simp_all
  obtain ⟨rfl, rfl⟩ := trodVars_none hV
  obtain ⟨a0, len0, cap0, rfl⟩ := okWide_slice Try.underlying29 (hval 0 29 v0 rfl rfl)
  obtain ⟨a1, len1, cap1, rfl⟩ := okWide_slice Try.underlying23 (hval 1 23 v1 rfl rfl)
  have hbulk : Rows.uptoBulkAll [d0, d1] ≤ 1048576 := by
    have h : Rows.uptoBulkAll ([d0, d1] ++ []) ≤ 1048576 := of_decide_eq_true hk
    simpa using h
  simp only [Rows.uptoBulkAll] at hbulk
  have k0 := h0
  have k1 := h1
  have lt0 : ∀ x ∈ p0, x.block < W.heap.size := by obtain ⟨m, hm⟩ := k0; exact DataW.trod_lt m _ _ _ hm
  have lt1 : ∀ x ∈ p1, x.block < W.heap.size := by obtain ⟨m, hm⟩ := k1; exact DataW.trod_lt m _ _ _ hm
  obtain ⟨fuel, hf⟩ := h0
  obtain ⟨fuel1, hf1⟩ := h1
  obtain ⟨ls, hls, hparts, hb1, hb2⟩ := open_parts hf
  obtain ⟨a1', cap1', l, e, hb, hb3⟩ := open_bytes_bulk hf1
  simp [Value.cells] at e
  obtain ⟨rfl, rfl, rfl⟩ := e
  subst hls
  clear hA0 hval0
  refine (sums_walk a0 cap0 ls a1 cap1 l W hparts hb (by omega) (by omega) (by omega)).mono fun e W' ⟨he, bel⟩ => ?_
  subst he
  exact ⟨_, rfl, _, _, _, [], _, [], hW', trodAll_mk1 (shut_bool Try.underlying4 _), (trodAll_cons_mk (Below.trod laidOut (by kernel_rfl) (of_decide_eq_true (by kernel_rfl)) k0 bel lt0) (trodAll_cons_mk (Below.trod laidOut (by kernel_rfl) (of_decide_eq_true (by kernel_rfl)) k1 bel lt1) trodAll_mk0)), rfl, bel.frame _, fun h => by cases h⟩

theorem over : Rows.octetSumsUptoRow.holds Try.pinned (Rows.OpenSpec.upto Rows.octetSumsSpec) :=
  OpenClaim.holds_of_cond 7 Try.f7 rfl rfl rfl rfl rfl rfl rfl ⟨rfl, rfl, rfl, rfl, rfl⟩ rfl rfl rfl rfl rfl (by kernel_rfl) Try.func7 (by kernel_rfl)
    (of_decide_eq_true (by kernel_rfl)) (by unfold Func.isWrapper; first | (rw [if_pos (by decide +kernel)]; kernel_rfl) | (rw [if_neg (by decide +kernel)]; exact ⟨rfl, rfl⟩))
    (fun os started H enc _ F => lifted os started H enc F)
end octetSums

theorem octetSums_upto : Rows.OctetSumsUptoSaid := octetSums.over
#print axioms octetSums_upto
end Go.Proofs.Ytfgcpkbbneicfaa
