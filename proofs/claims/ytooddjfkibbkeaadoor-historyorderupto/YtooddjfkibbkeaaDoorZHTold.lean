/- told, Check: whether there are events of operations. -/
import Derived.Test.YtooddjfkibbkeaaDoorZHAgree
import Derived.Test.YtooddjfkibbkeaaDoorZHLaid
import Derived.Test.YtooddjfkibbkeaaDoorZHMake
namespace Go.Proofs.YtooddjfkibbkeaaDoor
open Go.RowKit Go.Maps

/-- Operations agree with what is made of the events that they tell. -/
structure AgreeM (P O : List (List UInt8)) (cs : List HV) (l : List Evn) : Prop where
  fine : Fine l l.length
  small : NoLarge l
  pr : P = (gAt l l.length).procs
  ob : O = (gAt l l.length).objs
  cl : cs.map plc = (gAt l l.length).calls.map (fun c => ((c.inv : Int), c.res))
theorem refused_no {l : List Evn} {k : Nat} {code : Int} (h : Refused l k code) : code ≠ 0 ∧ ¬ (Fine l l.length ∧ NoLarge l) := by
  rcases h with ⟨h1, h2⟩ | ⟨_, h2, h3, h4⟩
  · refine ⟨h2, fun hf => ?_⟩
    rcases h1 with ⟨h1, _⟩ | ⟨h3, h4, h5, _⟩
    · exact h2 h1
    · exact h5 (h4.trans (hf.1 k h3 h3))
  · refine ⟨by omega, fun hf => ?_⟩
    have := hf.2 k h2
    rw [h3.1] at this
    cases this
theorem laidN_good {w : World} {B n : Nat} {v0 v1 v2 : Value} {P O : List (List UInt8)} {cs : List HV} (h : HPast w B (n + 1) v0 v1 v2 P O cs) : ∀ k E, laidN P O cs k = some E → EvsGood w B (n + 1) E
  | 0, E, e => by
    simp only [laidN, Option.some.injEq] at e
    subst e
    exact good_zero w B n _
  | k + 1, E, e => by
    rw [laidN] at e
    split at e
    · cases e
    · rename_i E' h'
      split at e
      · rename_i hk
        exact stepL_good e (laidN_good h k E' h') (h.its _ (List.getElem_mem hk)) h.nmp h.nmo
      · simp only [Option.some.injEq] at e
        subst e
        exact laidN_good h k E' h'
theorem laidN_len {P O : List (List UInt8)} {cs : List HV} : ∀ k E, laidN P O cs k = some E → E.length = placesM cs
  | 0, E, e => by
    simp only [laidN, Option.some.injEq] at e
    subst e
    exact List.length_replicate
  | k + 1, E, e => by
    rw [laidN] at e
    split at e
    · cases e
    · rename_i E' h'
      split at e
      · exact (stepL_len e).trans (laidN_len k E' h')
      · simp only [Option.some.injEq] at e
        subst e
        exact laidN_len k E' h'
/-- What told answers. -/
def ToldR (P O : List (List UInt8)) (cs : List HV) (h0 : Nat) (w' : World) (v : Value) : Prop :=
  (v = .tuple #[.slice none 0 0, .int .i64 2] ∧ ∀ E, laidM P O cs = some E → ¬ AgreeM P O cs (E.map (·.1))) ∨
  (∃ E g L, laidM P O cs = some E ∧ AgreeM P O cs (E.map (·.1)) ∧ v = .tuple #[.slice (some ⟨g, 0, none⟩) E.length E.length, .int .i64 0] ∧ h0 ≤ L ∧ w'.ownsRow L 46 12 (.slice (some ⟨g, 0, none⟩) E.length E.length) E.length (erow E))
theorem plc_calls {rs : List CV} {cl : List Cl} (h : rs.map (·.1) = cl) : (rs.map hvOf).map plc = cl.map (fun c => ((c.inv : Int), c.res)) := by
  subst h
  simp [List.map_map, Function.comp_def, hvOf, plc, chOf]
theorem CvAt.sls {w : World} {B n : Nat} {rs : List CV} (h : ∀ x ∈ rs, CvAt w B n x) : SlsH (rs.map hvOf) := by
  intro x hx
  obtain ⟨y, hy, rfl⟩ := List.mem_map.1 hx
  obtain ⟨a, c, e, _⟩ := (h y hy).1.len
  obtain ⟨a', c', e', _⟩ := (h y hy).2.1.len
  exact ⟨⟨_, _, _, e⟩, ⟨_, _, _, e'⟩⟩
theorem HPast.sls {w : World} {B n : Nat} {v0 v1 v2 : Value} {P O : List (List UInt8)} {cs : List HV} (h : HPast w B n v0 v1 v2 P O cs) : SlsH cs := by
  intro x hx
  obtain ⟨a, c, e, _⟩ := (h.its x hx).1.len
  obtain ⟨a', c', e', _⟩ := (h.its x hx).2.1.len
  exact ⟨⟨_, _, _, e⟩, ⟨_, _, _, e'⟩⟩
set_option maxRecDepth 100000 in
set_option maxHeartbeats 4000000 in
theorem told_k (w : World) (n : Nat) (v0 v1 v2 : Value) (P O : List (List UInt8)) (cs : List HV) (hT : TabL w) (h : HPast w w.heap.size (n + 1) v0 v1 v2 P O cs) (hcs : cs.length ≤ 100000000) :
    Calls Tryd.prog 33 #[.agg #[v0, v1, v2]] w fun e w' => (∃ v, e = .returned v ∧ ToldR P O cs w.heap.size w' v) ∧ Below w.heap.size w w' := by
  obtain ⟨a0, c0, rfl, hl0⟩ := h.pr.len
  obtain ⟨a1, c1, rfl, hl1⟩ := h.ob.len
  obtain ⟨a2, c2, rfl, hl2⟩ := h.cl.len
  obtain ⟨W, hW⟩ : ∃ W, w.alloc (.cells #[.slice a0 P.length c0, .slice a1 O.length c1, .slice a2 cs.length c2] 27) = W := ⟨_, rfl⟩
  have bW : Below w.heap.size w W := by rw [← hW]; exact alloc_v (Below.refl _ _) _
  have e1 : W.heap[w.heap.size]? = some (.cells #[.slice a0 P.length c0, .slice a1 O.length c1, .slice a2 cs.length c2] 27 (0, 0)) := by rw [← hW]; exact World.alloc_heap_new w _
  have zW : W.heap.size = w.heap.size + 1 := by rw [← hW]; simp
  have hPW := (h.below bW).up bW.size
  have HLD := hide (laid_k W n _ _ _ P O cs hPW hcs)
  have x0 := cells_at e1 0 _ rfl
  have x1 := cells_at e1 1 _ rfl
  have x2 := cells_at e1 2 _ rfl
  have HT := hide (hT.below bW)
  have HP := hide h
  have HPW := hide hPW
  have HE := hide e1
  have BW := hide bW
  have ZW := hide zW
  clear h hT hPW bW e1 zW
  cases hlm : laidM P O cs with
  | none =>
    go_enter Tryd.func33, Tryd.ntmps33
    go_wp2_with (go_at_call 50; refine HLD.out.mono ?_; clear HLD; rintro r w1 ⟨⟨v, rfl, hres⟩, b1⟩; have B1 := hide b1; unfold LaidR at hres; rw [hlm] at hres; dsimp only at hres; subst hres; clear b1)
    go_ret2
    exact ⟨⟨_, rfl, .inl ⟨rfl, fun E e => by rw [hlm] at e; cases e⟩⟩, trans_v BW.out B1.out⟩
  | some E =>
    have hEl : E.length = placesM cs := laidN_len _ _ hlm
    have hEb : E.length ≤ 200000000 := by have := placesN_le cs cs.length; unfold placesM at hEl; omega
    have HG := hide (laidN_good HPW.out _ _ hlm)
    have HLM := hide hlm
    clear hEl
    go_enter Tryd.func33, Tryd.ntmps33
    go_upto_region 4 with (go_at_call 50; refine HLD.out.mono ?_; clear HLD; rintro r w1 ⟨⟨v, rfl, hres⟩, b1⟩; have B1 := hide b1; unfold LaidR at hres; rw [hlm] at hres; dsimp only at hres; obtain ⟨g, rfl, hg, hrow⟩ := hres; have HROW := hide hrow; clear b1 hrow)
    clear hlm hW x0 x1 x2
    have hb1 := B1.out.size
    have HO := hide (operations_k (E.map (·.1)) w1 n _ (HT.out.below B1.out) (evs_of_row HROW.out (by omega) (HG.out.below B1.out) B1.out.size))
    go_upto_region 5 with (go_at_call 23; refine HO.out.mono ?_; clear HO; rintro r w2 ⟨⟨u0, u1, u2, at', code, rfl, hres⟩, b2⟩; obtain ⟨⟨s0, m0, d0, rfl⟩, ⟨s1, m1, d1, rfl⟩, ⟨s2, m2, d2, rfl⟩⟩ := ops_forms hres; have HRES := hide hres; have B2 := hide b2; clear hres b2)
    have hb2 := B2.out.size
    obtain ⟨X, hX⟩ : ∃ X, w2.alloc (.cells #[.slice s0 m0 d0, .slice s1 m1 d1, .slice s2 m2 d2] 27) = X := ⟨_, rfl⟩
    have bX : Below w2.heap.size w2 X := by rw [← hX]; exact alloc_v (Below.refl _ _) _
    have eX : X.heap[w2.heap.size]? = some (.cells #[.slice s0 m0 d0, .slice s1 m1 d1, .slice s2 m2 d2] 27 (0, 0)) := by rw [← hX]; exact World.alloc_heap_new w2 _
    have bWX : Below W.heap.size W X := trans_v (trans_v B1.out B2.out) bX
    have fX := (bWX.block w.heap.size (by have := ZW.out; omega)).trans HE.out
    have rX := (Keeps.below (M := fun _ => False) (trans_v B2.out bX)).row HROW.out (fun _ _ h => h)
    have RX := hide rX
    have BWX := hide bWX
    rw [hX]
    clear hX
    rcases HRES.out with ⟨hr, _⟩ | ⟨rfl, rfl, hfine, hnl, rs, L, B, hL1, hL2, hL3, hp⟩
    · obtain ⟨hcd, hno⟩ := refused_no hr
      have hcb : (code != 0) = true := by simpa using hcd
      have HNO := hide hno
      clear hno hr HRES hcd fX rX eX bWX
      go_wp2
      go_ret2
      exact ⟨⟨_, rfl, .inl ⟨rfl, fun E' e ha => by rw [HLM.out] at e; cases e; exact HNO.out ⟨ha.fine, ha.small⟩⟩⟩, trans_v BW.out BWX.out⟩
    · have hEm : (E.map (·.1)).length ≤ 200000000 := by rw [List.length_map]; exact hEb
      obtain ⟨z1, z2, z3, _⟩ := gAt_small (E.map (·.1)) (E.map (·.1)).length
      have hrl : rs.length = (gAt (E.map (·.1)) (E.map (·.1)).length).calls.length := by have := congrArg List.length hp.same; simpa using this
      have k0 := NamesAt.row hp.pr (by omega)
      have k1 := NamesAt.row hp.ob (by omega)
      have hcl := hp.cl
      rw [← hrl] at hcl
      have k2 := HvsAt.row hcl (by omega)
      have bw2 := bX.size
      have HAG := hide (agree_k X w2.heap.size (by omega) _ _ _ _ _ _ P O _ _ cs (rs.map hvOf) ((HPW.out.pr.below BWX.out).below (Below.refl _ _) |>.kept (fun _ _ _ => rfl) |> fun h => (h.up (by have := ZW.out; omega))) ((HPW.out.ob.below BWX.out).up (by have := ZW.out; omega)) ((HPW.out.cl.below BWX.out).up (by have := ZW.out; omega)) (k0.below bX) (k1.below bX) (k2.below bX) HPW.out.sls (CvAt.sls hp.its))
      have hag : agreeB P O (gAt (E.map (·.1)) (E.map (·.1)).length).procs (gAt (E.map (·.1)) (E.map (·.1)).length).objs cs (rs.map hvOf) = true ↔ AgreeM P O cs (E.map (·.1)) := by
        unfold agreeB plsB
        rw [plc_calls hp.same]
        simp only [Bool.and_eq_true, decide_eq_true_eq]
        exact ⟨fun ⟨h1, h2, h3⟩ => ⟨hfine, hnl, h1, h2, h3⟩, fun h => ⟨h.pr, h.ob, h.cl⟩⟩
      generalize agreeB P O (gAt (E.map (·.1)) (E.map (·.1)).length).procs (gAt (E.map (·.1)) (E.map (·.1)).length).objs cs (rs.map hvOf) = bb at hag HAG
      have HBG := hide hag
      have q0 := cells_at fX 0 _ rfl
      have q1 := cells_at fX 1 _ rfl
      have q2 := cells_at fX 2 _ rfl
      have r0 := cells_at eX 0 _ rfl
      have r1 := cells_at eX 1 _ rfl
      have r2 := cells_at eX 2 _ rfl
      clear hag fX rX eX bWX hp hcl k0 k1 k2 z1 z2 z3 hrl hEm HRES hfine hnl
      cases bb
      · go_wp2_with (go_at_call 51; refine HAG.out.mono ?_; clear HAG; rintro r w3 ⟨rfl, b3⟩; have B3 := hide b3; clear b3)
        go_ret2
        exact ⟨⟨_, rfl, .inl ⟨rfl, fun E' e ha => by rw [HLM.out] at e; cases e; exact absurd (HBG.out.2 ha) (by simp)⟩⟩, trans_v (trans_v BW.out BWX.out) B3.out⟩
      · go_wp2_with (go_at_call 51; refine HAG.out.mono ?_; clear HAG; rintro r w3 ⟨rfl, b3⟩; have B3 := hide b3; clear b3)
        go_ret2
        exact ⟨⟨_, rfl, .inr ⟨E, g, W.heap.size, HLM.out, HBG.out.1 (by simp), rfl, by have := ZW.out; omega, (Keeps.below (M := fun _ => False) B3.out).row RX.out (fun _ _ h => h)⟩⟩, trans_v (trans_v BW.out BWX.out) B3.out⟩
/-- What operations that are checked come to. -/
def ToldOk (P O : List (List UInt8)) (cs : List HV) : Prop := ∃ E, laidM P O cs = some E ∧ AgreeM P O cs (E.map (·.1))
theorem ToldR.form {P O : List (List UInt8)} {cs : List HV} {h0 : Nat} {w' : World} {v : Value} (h : ToldR P O cs h0 w' v) : ∃ a m c, ∃ k : Int, v = .tuple #[.slice a m c, .int .i64 k] ∧ (k = 0 ∧ ToldOk P O cs ∨ k = 2 ∧ ¬ ToldOk P O cs) := by
  rcases h with ⟨rfl, h⟩ | ⟨E, g, L, h1, h2, rfl, _⟩
  · exact ⟨_, _, _, _, rfl, .inr ⟨rfl, fun ⟨E, h1, h2⟩ => h E h1 h2⟩⟩
  · exact ⟨_, _, _, _, rfl, .inl ⟨rfl, E, h1, h2⟩⟩
set_option maxRecDepth 100000 in
set_option maxHeartbeats 1000000 in
theorem checkP_k (w : World) (n : Nat) (v0 v1 v2 : Value) (P O : List (List UInt8)) (cs : List HV) (hT : TabL w) (h : HPast w w.heap.size (n + 1) v0 v1 v2 P O cs) (hcs : cs.length ≤ 100000000) :
    Calls Tryd.prog 15 #[.agg #[v0, v1, v2]] w fun e w' => (∃ k : Int, e = .returned (.int .i64 k) ∧ (k = 0 ∧ ToldOk P O cs ∨ k = 2 ∧ ¬ ToldOk P O cs)) ∧ Below w.heap.size w w' := by
  obtain ⟨a0, c0, rfl, hl0⟩ := h.pr.len
  obtain ⟨a1, c1, rfl, hl1⟩ := h.ob.len
  obtain ⟨a2, c2, rfl, hl2⟩ := h.cl.len
  obtain ⟨W, hW⟩ : ∃ W, w.alloc (.cells #[.slice a0 P.length c0, .slice a1 O.length c1, .slice a2 cs.length c2] 27) = W := ⟨_, rfl⟩
  have bW : Below w.heap.size w W := by rw [← hW]; exact alloc_v (Below.refl _ _) _
  have e1 : W.heap[w.heap.size]? = some (.cells #[.slice a0 P.length c0, .slice a1 O.length c1, .slice a2 cs.length c2] 27 (0, 0)) := by rw [← hW]; exact World.alloc_heap_new w _
  have HLD := hide (told_k W n _ _ _ P O cs (hT.below bW) ((h.below bW).up bW.size) hcs)
  have x0 := cells_at e1 0 _ rfl
  have x1 := cells_at e1 1 _ rfl
  have x2 := cells_at e1 2 _ rfl
  clear h hT e1
  go_enter Tryd.func15, Tryd.ntmps15
  go_wp2_with (go_at_call 33; refine HLD.out.mono ?_; clear HLD; rintro r w1 ⟨⟨v, rfl, hres⟩, b1⟩; obtain ⟨ea, em, ec, kk, rfl, hk⟩ := hres.form; have HK := hide hk; have B1 := hide b1; clear hres hk b1)
  go_ret
  exact ⟨⟨_, rfl, HK.out⟩, trans_v bW B1.out⟩
end Go.Proofs.YtooddjfkibbkeaaDoor
