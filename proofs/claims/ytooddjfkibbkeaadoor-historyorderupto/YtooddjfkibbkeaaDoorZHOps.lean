/- operations: what Make makes, but for the copies. -/
import Derived.Test.YtooddjfkibbkeaaDoorZHTakeI
namespace Go.Proofs.YtooddjfkibbkeaaDoor
open Go.RowKit Go.Maps

theorem OpnM.mono {w : World} {mb k k' : Nat} {o : List (Nat × Nat)} (h : OpnM w mb k o) (hk : k ≤ k') : OpnM w mb k' o := by
  obtain ⟨D, h1, h2⟩ := h
  exact ⟨D, h1.mono hk, h2⟩
theorem GAt.more {w : World} {B h0 L gb mp mo mm k k' n : Nat} {g : Gs} {v0 v1 v2 : Value} {rs : List CV} (hg : GAt w B h0 L gb mp mo mm k n g v0 v1 v2 rs) (hk : k ≤ k') : GAt w B h0 L gb mp mo mm k' n g v0 v1 v2 rs :=
  ⟨hg.blk, hg.pr, hg.ob, hg.cl, hg.same, hg.its, hg.bh, hg.np, hg.no, hg.om.mono hk, hg.dis, hg.sz⟩
/-- How great a gathering of k events is. -/
theorem gAt_small (l : List Evn) : ∀ k, (gAt l k).procs.length ≤ k ∧ (gAt l k).objs.length ≤ k ∧ (gAt l k).calls.length ≤ k ∧ (gAt l k).opn.length ≤ k
  | 0 => by simp [gAt]
  | k + 1 => by
    obtain ⟨h1, h2, h3, h4⟩ := gAt_small l k
    have ha : ∀ (l : List (List UInt8)) s, (addN l s).length ≤ l.length + 1 := fun l s => by unfold addN; split <;> simp
    rw [gAt]
    split
    · unfold takeM
      split
      · have := ha (gAt l k).procs l[k].proc
        have hd : (dropO (gAt l k).opn ((gAt l k).procs.idxOf l[k].proc)).length ≤ (gAt l k).opn.length := List.length_filter_le _ _
        exact ⟨by simp only; omega, by simp only; omega, by simp only [answer_len]; omega, by simp only; omega⟩
      · have := ha (gAt l k).procs l[k].proc
        have := ha (gAt l k).objs l[k].obj
        exact ⟨by simp only; omega, by simp only; omega, by simp only [List.length_append, List.length_singleton]; omega, by simp only [List.length_cons]; omega⟩
    · exact ⟨by omega, by omega, by omega, by omega⟩
/-- take: an event that is well formed there. -/
theorem take_k (l : List Evn) (k : Nat) (hlt : k < l.length) (hf : Fine l (k + 1)) (w : World) (B h0 L gb mp mo mm n : Nat) (v0 v1 v2 : Value) (rs : List CV) (s : Value) (hg : GAt w B h0 L gb mp mo mm k (n + 1) (gAt l k) v0 v1 v2 rs) (hF : Fix h0 L gb mp mo mm) (h0l : h0 ≤ w.heap.size) (he : EvOk l[k]) (hz : l[k].val.size ≤ 1000000000) (hi : ItemsAt w B (n + 1) s l[k].val.items) (hk : k + 1 ≤ 1000000000) :
    Calls Tryd.prog 41 #[.pointer (some ⟨gb, 0, none⟩), .int .i64 (k : Int), .agg (evCells l[k] s)] w fun r w' => (∃ v, r = .returned v) ∧ (∃ v0' v1' v2' rs', GAt w' B h0 L gb mp mo mm (k + 1) (n + 1) (gAt l (k + 1)) v0' v1' v2' rs') ∧ Below h0 w w' := by
  obtain ⟨s1, s2, s3, s4⟩ := gAt_small l k
  have hgd := good_at l k (by omega) (fun j hj hjk => hf j hj (by omega))
  have h0' := hf k hlt (by omega)
  rw [gAt_succ l k hlt]
  obtain ⟨_, ⟨k1, k2⟩ | ⟨k1, k2⟩⟩ := fault_inv h0'
  · refine takeInv_k l[k] k w B h0 L gb mp mo mm k n (gAt l k) v0 v1 v2 rs s hg hF h0l he k1 hz hi (fun h => ?_) (by omega) (by omega) (by omega) (by omega) (by omega)
    obtain ⟨⟨p, c⟩, hm, e⟩ := List.mem_map.1 h
    simp only at e
    subst e
    exact k2 ((hgd.nms _).2 ⟨c, hm⟩)
  · obtain ⟨c0, hc0⟩ := (hgd.nms _).1 k2
    obtain ⟨hlc, _, _⟩ := hgd.opn _ _ hc0
    refine (takeRes_k l[k] k w B h0 L gb mp mo mm k (n + 1) (gAt l k) v0 v1 v2 rs s hg hF h0l he k1 hz hi c0 hc0 (findO_mem (fun c c' => hgd.one _ c c') hc0) hlc (by omega) (by omega) (by omega)).mono ?_
    rintro r w' ⟨h1, ⟨a, b, c, h2⟩, h3⟩
    exact ⟨h1, ⟨a, v1, b, c, h2.more (Nat.le_succ _)⟩, h3⟩
end Go.Proofs.YtooddjfkibbkeaaDoor
