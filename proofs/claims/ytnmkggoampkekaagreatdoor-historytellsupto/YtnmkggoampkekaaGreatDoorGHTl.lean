/- told, Check: whether there are events of operations. -/
import Derived.Test.YtnmkggoampkekaaGreatDoorGHLdG
import Derived.Test.YtnmkggoampkekaaGreatDoorZHMake
namespace Go.Proofs.YtnmkggoampkekaaGreatDoor
open Go.RowKit Go.Maps

/-- Operations agree with what is made of the events that they tell. -/
structure AgreeM (P O : List (List UInt8)) (cs : List HV) (l : List Evn) : Prop where
  fine : Fine l l.length
  small : NoLarge l
  pr : P = (gAt l l.length).procs
  ob : O = (gAt l l.length).objs
  cl : cs.map plc = (gAt l l.length).calls.map (fun c => ((c.inv : Int), c.res))
theorem refused_no {l : List Evn} {k : Nat} {code : Int} (h : Refused l k code) : code ≠ 0 ∧ ¬ (Fine l l.length ∧ NoLarge l) := by
  rcases h with ⟨h1, h2⟩ | ⟨_, h2, h3, h4⟩
  · refine ⟨h2, fun hf => ?_⟩
    rcases h1 with ⟨h1, _⟩ | ⟨h3, h4, h5, _⟩
    · exact h2 h1
    · exact h5 (h4.trans (hf.1 k h3 h3))
  · refine ⟨by omega, fun hf => ?_⟩
    have := hf.2 k h2
    rw [h3.1] at this
    cases this
theorem laidN_good {w : World} {B n : Nat} {v0 v1 v2 : Value} {P O : List (List UInt8)} {cs : List HV} (h : HPast w B (n + 1) v0 v1 v2 P O cs) : ∀ k E, laidN P O cs k = some E → EvsGood w B (n + 1) E
  | 0, E, e => by
    simp only [laidN, Option.some.injEq] at e
    subst e
    exact good_zero w B n _
  | k + 1, E, e => by
    rw [laidN] at e
    split at e
    · cases e
    · rename_i E' h'
      split at e
      · rename_i hk
        exact stepL_good e (laidN_good h k E' h') (h.its _ (List.getElem_mem hk)) h.nmp h.nmo
      · simp only [Option.some.injEq] at e
        subst e
        exact laidN_good h k E' h'
theorem laidN_len {P O : List (List UInt8)} {cs : List HV} : ∀ k E, laidN P O cs k = some E → E.length = placesM cs
  | 0, E, e => by
    simp only [laidN, Option.some.injEq] at e
    subst e
    exact List.length_replicate
  | k + 1, E, e => by
    rw [laidN] at e
    split at e
    · cases e
    · rename_i E' h'
      split at e
      · exact (stepL_len e).trans (laidN_len k E' h')
      · simp only [Option.some.injEq] at e
        subst e
        exact laidN_len k E' h'
/-- What told answers. -/
def ToldR (P O : List (List UInt8)) (cs : List HV) (h0 : Nat) (w' : World) (v : Value) : Prop :=
  (v = .tuple #[.slice none 0 0, .int .i64 2] ∧ ∀ E, laidM P O cs = some E → ¬ AgreeM P O cs (E.map (·.1))) ∨
  (∃ E g L, laidM P O cs = some E ∧ AgreeM P O cs (E.map (·.1)) ∧ v = .tuple #[.slice (some ⟨g, 0, none⟩) E.length E.length, .int .i64 0] ∧ h0 ≤ L ∧ w'.ownsRow L 61 12 (.slice (some ⟨g, 0, none⟩) E.length E.length) E.length (erow E))
theorem plc_calls {rs : List CV} {cl : List Cl} (h : rs.map (·.1) = cl) : (rs.map hvOf).map plc = cl.map (fun c => ((c.inv : Int), c.res)) := by
  subst h
  simp [List.map_map, Function.comp_def, hvOf, plc, chOf]
theorem CvAt.sls {w : World} {B n : Nat} {rs : List CV} (h : ∀ x ∈ rs, CvAt w B n x) : SlsH (rs.map hvOf) := by
  intro x hx
  obtain ⟨y, hy, rfl⟩ := List.mem_map.1 hx
  obtain ⟨a, c, e, _⟩ := (h y hy).1.len
  obtain ⟨a', c', e', _⟩ := (h y hy).2.1.len
  exact ⟨⟨_, _, _, e⟩, ⟨_, _, _, e'⟩⟩
theorem HPast.sls {w : World} {B n : Nat} {v0 v1 v2 : Value} {P O : List (List UInt8)} {cs : List HV} (h : HPast w B n v0 v1 v2 P O cs) : SlsH cs := by
  intro x hx
  obtain ⟨a, c, e, _⟩ := (h.its x hx).1.len
  obtain ⟨a', c', e', _⟩ := (h.its x hx).2.1.len
  exact ⟨⟨_, _, _, e⟩, ⟨_, _, _, e'⟩⟩
set_option maxRecDepth 100000 in
set_option maxHeartbeats 4000000 in
theorem told_k (w : World) (n : Nat) (v0 v1 v2 : Value) (P O : List (List UInt8)) (cs : List HV) (hT : TabL w) (h : HPast w w.heap.size (n + 1) v0 v1 v2 P O cs) (hcs : cs.length ≤ 100000000) :
    Calls Tryz.prog 14 #[.agg #[v0, v1, v2]] w fun e w' => (∃ v, e = .returned v ∧ ToldR P O cs w.heap.size w' v) ∧ Below w.heap.size w w' := by
  obtain ⟨a0, c0, rfl, hl0⟩ := h.pr.len
  obtain ⟨a1, c1, rfl, hl1⟩ := h.ob.len
  obtain ⟨a2, c2, rfl, hl2⟩ := h.cl.len
  obtain ⟨W, hW⟩ : ∃ W, w.alloc (.cells #[.slice a0 P.length c0, .slice a1 O.length c1, .slice a2 cs.length c2] 25) = W := ⟨_, rfl⟩
  have bW : Below w.heap.size w W := by rw [← hW]; exact alloc_v (Below.refl _ _) _
  have e1 : W.heap[w.heap.size]? = some (.cells #[.slice a0 P.length c0, .slice a1 O.length c1, .slice a2 cs.length c2] 25 (0, 0)) := by rw [← hW]; exact World.alloc_heap_new w _
  have zW : W.heap.size = w.heap.size + 1 := by rw [← hW]; simp
  have hPW := (h.below bW).up bW.size
  have HLD := hide (laid_k W n _ _ _ P O cs hPW hcs)
  have x0 := cells_at e1 0 _ rfl
  have x1 := cells_at e1 1 _ rfl
  have x2 := cells_at e1 2 _ rfl
  have HT := hide (hT.below bW)
  have HP := hide h
  have HPW := hide hPW
  have HE := hide e1
  have BW := hide bW
  have ZW := hide zW
  clear h hT hPW bW e1 zW
  cases hlm : laidM P O cs with
  | none =>
    go_enter Tryz.func14, Tryz.ntmps14
    go_wp2_with (go_at_call 27; refine HLD.out.mono ?_; clear HLD; rintro r w1 ⟨⟨v, rfl, hres⟩, b1⟩; have B1 := hide b1; unfold LaidR at hres; rw [hlm] at hres; dsimp only at hres; subst hres; clear b1)
    go_ret2
    exact ⟨⟨_, rfl, .inl ⟨rfl, fun E e => by rw [hlm] at e; cases e⟩⟩, trans_v BW.out B1.out⟩
  | some E =>
    have hEl : E.length = placesM cs := laidN_len _ _ hlm
    have hEb : E.length ≤ 200000000 := by have := placesN_le cs cs.length; unfold placesM at hEl; omega
    have HG := hide (laidN_good HPW.out _ _ hlm)
    have HLM := hide hlm
    clear hEl
    go_enter Tryz.func14, Tryz.ntmps14
    go_upto_region 4 with (go_at_call 27; refine HLD.out.mono ?_; clear HLD; rintro r w1 ⟨⟨v, rfl, hres⟩, b1⟩; have B1 := hide b1; unfold LaidR at hres; rw [hlm] at hres; dsimp only at hres; obtain ⟨g, rfl, hg, hrow⟩ := hres; have HROW := hide hrow; clear b1 hrow)
    clear hlm hW x0 x1 x2
    have hb1 := B1.out.size
    have HO := hide (operations_k (E.map (·.1)) w1 n _ (HT.out.below B1.out) (evs_of_row HROW.out (by omega) (HG.out.below B1.out) B1.out.size))
    go_upto_region 5 with (go_at_call 28; refine HO.out.mono ?_; clear HO; rintro r w2 ⟨⟨u0, u1, u2, at', code, rfl, hres⟩, b2⟩; obtain ⟨⟨s0, m0, d0, rfl⟩, ⟨s1, m1, d1, rfl⟩, ⟨s2, m2, d2, rfl⟩⟩ := ops_forms hres; have HRES := hide hres; have B2 := hide b2; clear hres b2)
    have hb2 := B2.out.size
    obtain ⟨X, hX⟩ : ∃ X, w2.alloc (.cells #[.slice s0 m0 d0, .slice s1 m1 d1, .slice s2 m2 d2] 25) = X := ⟨_, rfl⟩
    have bX : Below w2.heap.size w2 X := by rw [← hX]; exact alloc_v (Below.refl _ _) _
    have eX : X.heap[w2.heap.size]? = some (.cells #[.slice s0 m0 d0, .slice s1 m1 d1, .slice s2 m2 d2] 25 (0, 0)) := by rw [← hX]; exact World.alloc_heap_new w2 _
    have bWX : Below W.heap.size W X := trans_v (trans_v B1.out B2.out) bX
    have fX := (bWX.block w.heap.size (by have := ZW.out; omega)).trans HE.out
    have rX := (Keeps.below (M := fun _ => False) (trans_v B2.out bX)).row HROW.out (fun _ _ h => h)
    have RX := hide rX
    have BWX := hide bWX
    rw [hX]
    clear hX
    rcases HRES.out with ⟨hr, _⟩ | ⟨rfl, rfl, hfine, hnl, rs, L, B, hL1, hL2, hL3, hp⟩
    · obtain ⟨hcd, hno⟩ := refused_no hr
      have hcb : (code != 0) = true := by simpa using hcd
      have HNO := hide hno
      clear hno hr HRES hcd fX rX eX bWX
      go_wp2
      go_ret2
      exact ⟨⟨_, rfl, .inl ⟨rfl, fun E' e ha => by rw [HLM.out] at e; cases e; exact HNO.out ⟨ha.fine, ha.small⟩⟩⟩, trans_v BW.out BWX.out⟩
    · have hEm : (E.map (·.1)).length ≤ 200000000 := by rw [List.length_map]; exact hEb
      obtain ⟨z1, z2, z3, _⟩ := gAt_small (E.map (·.1)) (E.map (·.1)).length
      have hrl : rs.length = (gAt (E.map (·.1)) (E.map (·.1)).length).calls.length := by have := congrArg List.length hp.same; simpa using this
      have k0 := NamesAt.row hp.pr (by omega)
      have k1 := NamesAt.row hp.ob (by omega)
      have hcl := hp.cl
      rw [← hrl] at hcl
      have k2 := HvsAt.row hcl (by omega)
      have bw2 := bX.size
      have HAG := hide (agree_k X w2.heap.size (by omega) _ _ _ _ _ _ P O _ _ cs (rs.map hvOf) ((HPW.out.pr.below BWX.out).below (Below.refl _ _) |>.kept (fun _ _ _ => rfl) |> fun h => (h.up (by have := ZW.out; omega))) ((HPW.out.ob.below BWX.out).up (by have := ZW.out; omega)) ((HPW.out.cl.below BWX.out).up (by have := ZW.out; omega)) (k0.below bX) (k1.below bX) (k2.below bX) HPW.out.sls (CvAt.sls hp.its))
      have hag : agreeB P O (gAt (E.map (·.1)) (E.map (·.1)).length).procs (gAt (E.map (·.1)) (E.map (·.1)).length).objs cs (rs.map hvOf) = true ↔ AgreeM P O cs (E.map (·.1)) := by
        unfold agreeB plsB
        rw [plc_calls hp.same]
        simp only [Bool.and_eq_true, decide_eq_true_eq]
        exact ⟨fun ⟨h1, h2, h3⟩ => ⟨hfine, hnl, h1, h2, h3⟩, fun h => ⟨h.pr, h.ob, h.cl⟩⟩
      generalize agreeB P O (gAt (E.map (·.1)) (E.map (·.1)).length).procs (gAt (E.map (·.1)) (E.map (·.1)).length).objs cs (rs.map hvOf) = bb at hag HAG
      have HBG := hide hag
      have q0 := cells_at fX 0 _ rfl
      have q1 := cells_at fX 1 _ rfl
      have q2 := cells_at fX 2 _ rfl
      have r0 := cells_at eX 0 _ rfl
      have r1 := cells_at eX 1 _ rfl
      have r2 := cells_at eX 2 _ rfl
      clear hag fX rX eX bWX hp hcl k0 k1 k2 z1 z2 z3 hrl hEm HRES hfine hnl
      cases bb
      · go_wp2_with (go_at_call 29; refine HAG.out.mono ?_; clear HAG; rintro r w3 ⟨rfl, b3⟩; have B3 := hide b3; clear b3)
        go_ret2
        exact ⟨⟨_, rfl, .inl ⟨rfl, fun E' e ha => by rw [HLM.out] at e; cases e; exact absurd (HBG.out.2 ha) (by simp)⟩⟩, trans_v (trans_v BW.out BWX.out) B3.out⟩
      · go_wp2_with (go_at_call 29; refine HAG.out.mono ?_; clear HAG; rintro r w3 ⟨rfl, b3⟩; have B3 := hide b3; clear b3)
        go_ret2
        exact ⟨⟨_, rfl, .inr ⟨E, g, W.heap.size, HLM.out, HBG.out.1 (by simp), rfl, by have := ZW.out; omega, (Keeps.below (M := fun _ => False) B3.out).row RX.out (fun _ _ h => h)⟩⟩, trans_v (trans_v BW.out BWX.out) B3.out⟩
/-- What operations that are checked come to. -/
def ToldOk (P O : List (List UInt8)) (cs : List HV) : Prop := ∃ E, laidM P O cs = some E ∧ AgreeM P O cs (E.map (·.1))
theorem ToldR.form {P O : List (List UInt8)} {cs : List HV} {h0 : Nat} {w' : World} {v : Value} (h : ToldR P O cs h0 w' v) : ∃ a m c, ∃ k : Int, v = .tuple #[.slice a m c, .int .i64 k] ∧ (k = 0 ∧ ToldOk P O cs ∨ k = 2 ∧ ¬ ToldOk P O cs) := by
  rcases h with ⟨rfl, h⟩ | ⟨E, g, L, h1, h2, rfl, _⟩
  · exact ⟨_, _, _, _, rfl, .inr ⟨rfl, fun ⟨E, h1, h2⟩ => h E h1 h2⟩⟩
  · exact ⟨_, _, _, _, rfl, .inl ⟨rfl, E, h1, h2⟩⟩
set_option maxRecDepth 100000 in
set_option maxHeartbeats 1000000 in
theorem checkP_k (w : World) (n : Nat) (v0 v1 v2 : Value) (P O : List (List UInt8)) (cs : List HV) (hT : TabL w) (h : HPast w w.heap.size (n + 1) v0 v1 v2 P O cs) (hcs : cs.length ≤ 100000000) :
    Calls Tryz.prog 23 #[.agg #[v0, v1, v2]] w fun e w' => (∃ k : Int, e = .returned (.int .i64 k) ∧ (k = 0 ∧ ToldOk P O cs ∨ k = 2 ∧ ¬ ToldOk P O cs)) ∧ Below w.heap.size w w' := by
  obtain ⟨a0, c0, rfl, hl0⟩ := h.pr.len
  obtain ⟨a1, c1, rfl, hl1⟩ := h.ob.len
  obtain ⟨a2, c2, rfl, hl2⟩ := h.cl.len
  obtain ⟨W, hW⟩ : ∃ W, w.alloc (.cells #[.slice a0 P.length c0, .slice a1 O.length c1, .slice a2 cs.length c2] 25) = W := ⟨_, rfl⟩
  have bW : Below w.heap.size w W := by rw [← hW]; exact alloc_v (Below.refl _ _) _
  have e1 : W.heap[w.heap.size]? = some (.cells #[.slice a0 P.length c0, .slice a1 O.length c1, .slice a2 cs.length c2] 25 (0, 0)) := by rw [← hW]; exact World.alloc_heap_new w _
  have HLD := hide (told_k W n _ _ _ P O cs (hT.below bW) ((h.below bW).up bW.size) hcs)
  have x0 := cells_at e1 0 _ rfl
  have x1 := cells_at e1 1 _ rfl
  have x2 := cells_at e1 2 _ rfl
  clear h hT e1
  go_enter Tryz.func23, Tryz.ntmps23
  go_wp2_with (go_at_call 14; refine HLD.out.mono ?_; clear HLD; rintro r w1 ⟨⟨v, rfl, hres⟩, b1⟩; obtain ⟨ea, em, ec, kk, rfl, hk⟩ := hres.form; have HK := hide hk; have B1 := hide b1; clear hres hk b1)
  go_ret
  exact ⟨⟨_, rfl, HK.out⟩, trans_v bW B1.out⟩
end Go.Proofs.YtnmkggoampkekaaGreatDoor

/- Widest, Open, Proc: of operations that are right. -/
namespace Go.Proofs.YtnmkggoampkekaaGreatDoor
open Go.RowKit Go.Maps

/-- How many operations are open behind k events, and how many at most so far. -/
def wid (l : List Evn) : Nat → Int × Int
  | 0 => (0, 0)
  | k + 1 => if h : k < l.length then ((if l[k].kind = 1 then (wid l k).1 + 1 else (wid l k).1 - 1), max (wid l k).2 (if l[k].kind = 1 then (wid l k).1 + 1 else (wid l k).1 - 1)) else wid l k
theorem wid_succ (l : List Evn) (k : Nat) (h : k < l.length) : wid l (k + 1) = ((if l[k].kind = 1 then (wid l k).1 + 1 else (wid l k).1 - 1), max (wid l k).2 (if l[k].kind = 1 then (wid l k).1 + 1 else (wid l k).1 - 1)) := by
  rw [wid, dif_pos h]
theorem wid_small (l : List Evn) : ∀ k : Nat, (-(k : Int) ≤ (wid l k).1 ∧ (wid l k).1 ≤ k) ∧ (0 ≤ (wid l k).2 ∧ (wid l k).2 ≤ k)
  | 0 => by simp [wid]
  | k + 1 => by
    have h := wid_small l k
    rw [wid]
    split
    · dsimp only
      split <;> omega
    · omega
set_option maxRecDepth 100000 in
set_option maxHeartbeats 2000000 in
theorem widestY_k (w : World) (n : Nat) (v0 v1 v2 : Value) (P O : List (List UInt8)) (cs : List HV) (hT : TabL w) (h : HPast w w.heap.size (n + 1) v0 v1 v2 P O cs) (hcs : cs.length ≤ 100000000) (E : List EV) (hlm : laidM P O cs = some E) (hag : AgreeM P O cs (E.map (·.1))) :
    Calls Tryz.prog 12 #[.agg #[v0, v1, v2]] w fun e w' => e = .returned (.tuple #[.int .i64 (wid (E.map (·.1)) (E.map (·.1)).length).2, .int .i64 0]) ∧ Below w.heap.size w w' := by
  obtain ⟨a0, c0, rfl, hl0⟩ := h.pr.len
  obtain ⟨a1, c1, rfl, hl1⟩ := h.ob.len
  obtain ⟨a2, c2, rfl, hl2⟩ := h.cl.len
  obtain ⟨W, hW⟩ : ∃ W, w.alloc (.cells #[.slice a0 P.length c0, .slice a1 O.length c1, .slice a2 cs.length c2] 25) = W := ⟨_, rfl⟩
  have bW : Below w.heap.size w W := by rw [← hW]; exact alloc_v (Below.refl _ _) _
  have e1 : W.heap[w.heap.size]? = some (.cells #[.slice a0 P.length c0, .slice a1 O.length c1, .slice a2 cs.length c2] 25 (0, 0)) := by rw [← hW]; exact World.alloc_heap_new w _
  have hPW := (h.below bW).up bW.size
  have HLD := hide (told_k W n _ _ _ P O cs (hT.below bW) hPW hcs)
  have HG := hide (laidN_good hPW _ _ hlm)
  have hEl : E.length = placesM cs := laidN_len _ _ hlm
  have hEb : E.length ≤ 200000000 := by have := placesN_le cs cs.length; unfold placesM at hEl; omega
  have x0 := cells_at e1 0 _ rfl
  have x1 := cells_at e1 1 _ rfl
  have x2 := cells_at e1 2 _ rfl
  have HLM := hide hlm
  have HAG := hide hag
  clear h hT e1 hPW hEl hlm hag
  go_enter Tryz.func12, Tryz.ntmps12
  go_wp2_with (go_at_call 14; refine HLD.out.mono ?_; clear HLD; rintro r w1 ⟨⟨v, rfl, hres⟩, b1⟩; have B1 := hide b1; have hr2 : ∃ g L, v = .tuple #[.slice (some ⟨g, 0, none⟩) E.length E.length, .int .i64 0] ∧ w1.ownsRow L 61 12 (.slice (some ⟨g, 0, none⟩) E.length E.length) E.length (erow E) := (by rcases hres with ⟨_, hn⟩ | ⟨E', g, L, h1, _, h3, _, h5⟩; exact absurd HAG.out (hn E HLM.out); have e := HLM.out.symm.trans h1; cases e; exact ⟨g, L, h3, h5⟩); obtain ⟨g, L, rfl, hrow⟩ := hr2; have HROW := hide hrow; clear b1 hrow hres)
  clear x0 x1 x2 hW
  have hiv := evs_of_row HROW.out (by omega) (HG.out.below B1.out) B1.out.size
  have HI := hide hiv
  have hlm : (E.map (·.1)).length = E.length := List.length_map _
  clear hiv
  generalize hle : E.map (·.1) = l at *
  have HL2 := hide hle
  clear hle
  have hlb : l.length ≤ 200000000 := by omega
  have HLE := hide hlm
  go_loopw [6, 7, 9, 17] (fun o m _ i wr => ∃ k : Nat, k ≤ l.length ∧ i = .int .i64 k ∧ o = .int .i64 (wid l k).1 ∧ m = .int .i64 (wid l k).2 ∧ Below w1.heap.size w1 wr) (fun _ _ _ i _ => l.length - (intOf i).toNat)
  case atStart => exact ⟨0, Nat.zero_le _, rfl, rfl, rfl, Below.refl _ _⟩
  case round =>
    obtain ⟨k, hk, rfl, rfl, rfl, hbel⟩ := hrel
    obtain ⟨⟨w1a, w1b⟩, w2a, w2b⟩ := wid_small l k
    by_cases hlt : k < l.length
    · obtain ⟨b3, o3, s3, hs3, g3, p0, p1, p2, p3, p4, p5, p6, p7, p8, p9, p10, p11, pi, pk, pz⟩ := (HI.out.below hbel).item k hlt
      cases hs3
      simp only [Nat.zero_add] at p0 p1 p2 p3 p4 p5 p6 p7 p8 p9 p10 p11
      have hws := wid_succ l k hlt
      have HWS := hide hws
      have hsz := hbel.size
      have l3 : g < wr.heap.size := by omega
      have k0 : (0 : Int) ≤ (k : Int) := by omega
      have k1 : (k : Int) < (l.length : Int) := by omega
      have k2 : (k : Int) < (E.length : Int) := by omega
      obtain ⟨sa, sc, rfl, _⟩ := pi.len
      have HB := hide hbel
      clear hbel g3 hws pi pk pz
      generalize l[k] = x at *
      generalize hww : wid l k = ww at *
      obtain ⟨wo, wm⟩ := ww
      (try dsimp only at w1a w1b w2a w2b)
      by_cases hkd : x.kind = 1
      · have hkb : (x.kind == 1) = true := by simpa using hkd
        go_wp2
        go_roundw
        case rel => exact ⟨k + 1, by omega, by go_num, by rw [HWS.out, if_pos hkd], by rw [HWS.out, if_pos hkd], alloc_v HB.out _⟩
        case measure => simp [intOf]; omega
      · have hkb : (x.kind == 1) = false := by simpa using hkd
        go_wp2
        go_roundw
        case rel => exact ⟨k + 1, by omega, by go_num, by rw [HWS.out, if_neg hkd], by rw [HWS.out, if_neg hkd], alloc_v HB.out _⟩
        case measure => simp [intOf]; omega
    · have he : k = l.length := by omega
      subst he
      have k2 : ¬ ((l.length : Int) < (E.length : Int)) := by omega
      have HB := hide hbel
      clear hbel
      go_wp2
      go_ret2
      exact ⟨by rw [HL2.out]; rfl, trans_v (trans_v bW B1.out) HB.out⟩
theorem infoIntH : (Tryz.prog.info? 3).map (fun i => (i.zero, i.size, i.bytes)) = some (some (.int .i64 0), 1, 8) := by kernel_rfl
/-- Is an operation open at a place? -/
def isOpn (x : HV) (t : Int) : Bool := decide (x.1.inv < t) && (decide (x.1.res = -1) || decide (t ≤ x.1.res))
def opnTo (cs : List HV) (t : Int) : Nat → List Nat
  | 0 => []
  | k + 1 => if h : k < cs.length then (if isOpn cs[k] t = true then opnTo cs t k ++ [k] else opnTo cs t k) else opnTo cs t k
def natsH (l : List Nat) : List Value := l.map fun k : Nat => .int .i64 (k : Int)
theorem natsH_snoc (l : List Nat) (k : Nat) : natsH (l ++ [k]) = natsH l ++ [.int .i64 (k : Int)] := by simp [natsH]
theorem opnTo_len (cs : List HV) (t : Int) : ∀ k, (opnTo cs t k).length ≤ k
  | 0 => Nat.le_refl _
  | k + 1 => by
    have := opnTo_len cs t k
    rw [opnTo]
    split
    · split
      · simp; omega
      · omega
    · omega
theorem opnTo_yes {cs : List HV} {t : Int} {k : Nat} (h : k < cs.length) (e : isOpn cs[k] t = true) : opnTo cs t (k + 1) = opnTo cs t k ++ [k] := by rw [opnTo, dif_pos h, if_pos e]
theorem opnTo_no {cs : List HV} {t : Int} {k : Nat} (h : k < cs.length) (e : ¬ isOpn cs[k] t = true) : opnTo cs t (k + 1) = opnTo cs t k := by rw [opnTo, dif_pos h, if_neg e]
set_option maxRecDepth 100000 in
set_option maxHeartbeats 2000000 in
theorem openY_k (w : World) (n : Nat) (v0 v1 v2 : Value) (P O : List (List UInt8)) (cs : List HV) (hT : TabL w) (h : HPast w w.heap.size (n + 1) v0 v1 v2 P O cs) (hcs : cs.length ≤ 100000000) (hok : ToldOk P O cs) (t : Int) (ht0 : 0 ≤ t) (ht1 : t ≤ (placesM cs : Int)) :
    Calls Tryz.prog 10 #[.agg #[v0, v1, v2], .int .i64 t] w fun e w' => (∃ v, e = .returned (.tuple #[v, .int .i64 0]) ∧ w'.ownsRow w.heap.size 3 1 v (opnTo cs t cs.length).length (natsH (opnTo cs t cs.length))) ∧ Below w.heap.size w w' := by
  obtain ⟨i0, hi, hz0, hz1, hz2⟩ := info_partsV infoIntH
  have hsls := h.sls
  obtain ⟨a0, c0, rfl, hl0⟩ := h.pr.len
  obtain ⟨a1, c1, rfl, hl1⟩ := h.ob.len
  obtain ⟨a2, c2, rfl, hl2⟩ := h.cl.len
  obtain ⟨W, hW⟩ : ∃ W, w.alloc (.cells #[.slice a0 P.length c0, .slice a1 O.length c1, .slice a2 cs.length c2] 25) = W := ⟨_, rfl⟩
  have bW : Below w.heap.size w W := by rw [← hW]; exact alloc_v (Below.refl _ _) _
  have zW : W.heap.size = w.heap.size + 1 := by rw [← hW]; simp
  have e1 : W.heap[w.heap.size]? = some (.cells #[.slice a0 P.length c0, .slice a1 O.length c1, .slice a2 cs.length c2] 25 (0, 0)) := by rw [← hW]; exact World.alloc_heap_new w _
  have HPL := hide (places_k W (.slice a0 P.length c0) (.slice a1 O.length c1) (.slice a2 cs.length c2) ⟨_, _, _, rfl⟩ ⟨_, _, _, rfl⟩ cs hsls ((h.cl.below bW).up bW.size))
  have HCK := hide (fun (U : World) (b : Below W.heap.size W U) => checkP_k U n _ _ _ P O cs (hT.below (trans_v bW b)) ((h.below (trans_v bW b)).up (trans_v bW b).size) hcs)
  have HE := hide (fun (U : World) (b : Below W.heap.size W U) => (b.block w.heap.size (by omega)).trans e1)
  have hn0 : ¬ (t < 0) := by omega
  have hn1 : ¬ ((placesM cs : Int) < t) := by omega
  have x0 := cells_at e1 0 _ rfl
  have x1 := cells_at e1 1 _ rfl
  have x2 := cells_at e1 2 _ rfl
  have HH := hide h
  have HOK := hide hok
  have ZW := hide zW
  have BW := hide bW
  clear h hT e1 hok ht0 ht1 zW bW
  generalize hpm : placesM cs = pm at *
  clear hpm
  go_enter Tryz.func10, Tryz.ntmps10
  go_upto_region 4 with (first
    | (go_at_call 25; refine HPL.out.mono ?_; clear HPL; rintro r w1 ⟨rfl, b1⟩; have B1 := hide b1; have f1 := HE.out _ b1; have y0 := cells_at f1 0 _ rfl; have y1 := cells_at f1 1 _ rfl; have y2 := cells_at f1 2 _ rfl; clear b1 f1)
    | (go_at_call 23; refine (HCK.out _ B1.out).mono ?_; clear HCK; rintro r w2 ⟨⟨kk, rfl, hk⟩, b2⟩; have hk0 : kk = 0 := (by rcases hk with ⟨h, _⟩ | ⟨_, h⟩; exact h; exact absurd HOK.out h); subst hk0; have B2 := hide (trans_v B1.out b2); clear hk b2))
  clear x0 x1 x2 y0 y1 y2 hW hn0 hn1
  have hb2 := B2.out.size
  have f2 := HE.out _ B2.out
  have x2 := cells_at f2 2 _ rfl
  have bw2 := trans_v BW.out B2.out
  clear f2
  go_wp2
  clear x2
  have ZZ := ZW.out
  go_loopw [6, 7, 8, 25] (fun v _ _ i wr => ∃ k : Nat, k ≤ cs.length ∧ i = .int .i64 k ∧ wr.ownsRow w.heap.size 3 1 v (opnTo cs t k).length (natsH (opnTo cs t k)) ∧ Below w.heap.size w wr) (fun _ _ _ i _ => cs.length - (intOf i).toNat)
  case atStart => exact ⟨0, Nat.zero_le _, rfl, World.ownsRow_nil _ _ _ _, bw2⟩
  case round =>
    obtain ⟨k, hk, rfl, hrow, hbel⟩ := hrel
    by_cases hlt : k < cs.length
    · obtain ⟨b3, o3, rfl, g3, p0, p1, p2, p3, p4, p5, p6, p7, p8, p9, p10, p11, p12, p13, p14⟩ := (HH.out.cl.below hbel).item k hlt
      have hon := opnTo_len cs t k
      have HY := hide (fun e => opnTo_yes (cs := cs) (t := t) hlt e)
      have HN := hide (fun e => opnTo_no (cs := cs) (t := t) hlt e)
      obtain ⟨⟨s1, s2, s3, es⟩, ⟨t1, t2, t3, et⟩⟩ := hsls _ (List.getElem_mem hlt)
      rw [es] at p7
      rw [et] at p14
      clear es et
      have hsz := hbel.size
      have l3 : b3 < wr.heap.size := by omega
      have k0 : (0 : Int) ≤ (k : Int) := by omega
      have k1 : (k : Int) < (cs.length : Int) := by omega
      have HB := hide hbel
      have HR := hide hrow
      clear hbel g3 hrow
      generalize cs[k] = x at *
      by_cases h1 : x.1.inv < t
      rotate_left
      · have HF := hide (HN.out (by unfold isOpn; simp [h1]))
        have hd : decide (x.1.inv < t) = false := by simpa using h1
        clear HY HN
        go_wp2
        go_roundw
        case rel => exact ⟨k + 1, by omega, by go_num, by rw [HF.out]; exact HR.out.alloc _, alloc_v HB.out _⟩
        case measure => simp [intOf]; omega
      have hd : decide (x.1.inv < t) = true := by simpa using h1
      by_cases h2 : x.1.res = -1
      · have HF := hide (HY.out (by unfold isOpn; simp [h1, h2]))
        have hrb : (x.1.res == -1) = true := by simpa using h2
        clear HY HN h2
        obtain ⟨V, hV⟩ : ∃ V, wr.alloc (.cells #[.int .i64 x.1.proc, .int .i64 x.1.obj, .string (bsN x.1.op), .int .i64 x.1.arg.kind, .int .i64 x.1.arg.int, .int .i64 x.1.arg.im, .string x.1.arg.text, .slice s1 s2 s3, .int .i64 x.1.inv, .int .i64 x.1.res, .int .i64 x.1.reply.kind, .int .i64 x.1.reply.int, .int .i64 x.1.reply.im, .string x.1.reply.text, .slice t1 t2 t3] 69) = V := ⟨_, rfl⟩
        have HRV := hide (show V.ownsRow w.heap.size 3 1 _ (opnTo cs t k).length (natsH (opnTo cs t k)) from by rw [← hV]; exact HR.out.alloc _)
        have HBV := hide (show Below w.heap.size w V from by rw [← hV]; exact alloc_v HB.out _)
        have hszV : w.heap.size ≤ V.heap.size := HBV.out.size
        have eV : V.heap[wr.heap.size]? = some (.cells #[.int .i64 x.1.proc, .int .i64 x.1.obj, .string (bsN x.1.op), .int .i64 x.1.arg.kind, .int .i64 x.1.arg.int, .int .i64 x.1.arg.im, .string x.1.arg.text, .slice s1 s2 s3, .int .i64 x.1.inv, .int .i64 x.1.res, .int .i64 x.1.reply.kind, .int .i64 x.1.reply.int, .int .i64 x.1.reply.im, .string x.1.reply.text, .slice t1 t2 t3] 69 (0, 0)) := by rw [← hV]; exact World.alloc_heap_new wr _
        have g8 := cells_at eV 8 _ rfl
        have g9 := cells_at eV 9 _ rfl
        clear eV
        go_wp2_with (at_builtin; refine wpList_append_own _ rfl _ _ 36 rfl w.heap.size 3 i0 (.int .i64 0) 1 8 Tryz.underlying36 hi hz0 hz1 hz2 rfl (by decide) _ _ _ rfl (HRV.out.alloc _) ⟨V.heap.size, 0, none⟩ 1 1 [.int .i64 (k : Int)] rfl rfl (cell_one_new _ _ _) (by simp [Value.oneCell']) (by unfold maxLen; omega) (by omega) (by simp; omega) ?_; intro v' w4 hown hgrow _; have R := hide (show w4.ownsRow w.heap.size 3 1 v' (opnTo cs t (k + 1)).length (natsH (opnTo cs t (k + 1))) from by rw [HF.out, natsH_snoc, List.length_append]; exact hown); have RB := hide (show Below w.heap.size w w4 from ((HBV.out.alloc HBV.out.size _).grown hgrow (by have := HBV.out.size; simp; omega) (fun r e => (HRV.out.lt r e).1))); clear hown hgrow)
        go_roundw
        case rel => exact ⟨k + 1, by omega, by go_num, R.out, RB.out⟩
        case measure => simp [intOf]; omega
      have hrb : (x.1.res == -1) = false := by simpa using h2
      by_cases h3 : t ≤ x.1.res
      · have HF := hide (HY.out (by unfold isOpn; simp [h1, h3]))
        have hd2 : decide (t ≤ x.1.res) = true := by simpa using h3
        clear HY HN
        obtain ⟨V, hV⟩ : ∃ V, wr.alloc (.cells #[.int .i64 x.1.proc, .int .i64 x.1.obj, .string (bsN x.1.op), .int .i64 x.1.arg.kind, .int .i64 x.1.arg.int, .int .i64 x.1.arg.im, .string x.1.arg.text, .slice s1 s2 s3, .int .i64 x.1.inv, .int .i64 x.1.res, .int .i64 x.1.reply.kind, .int .i64 x.1.reply.int, .int .i64 x.1.reply.im, .string x.1.reply.text, .slice t1 t2 t3] 69) = V := ⟨_, rfl⟩
        have HRV := hide (show V.ownsRow w.heap.size 3 1 _ (opnTo cs t k).length (natsH (opnTo cs t k)) from by rw [← hV]; exact HR.out.alloc _)
        have HBV := hide (show Below w.heap.size w V from by rw [← hV]; exact alloc_v HB.out _)
        have hszV : w.heap.size ≤ V.heap.size := HBV.out.size
        have eV : V.heap[wr.heap.size]? = some (.cells #[.int .i64 x.1.proc, .int .i64 x.1.obj, .string (bsN x.1.op), .int .i64 x.1.arg.kind, .int .i64 x.1.arg.int, .int .i64 x.1.arg.im, .string x.1.arg.text, .slice s1 s2 s3, .int .i64 x.1.inv, .int .i64 x.1.res, .int .i64 x.1.reply.kind, .int .i64 x.1.reply.int, .int .i64 x.1.reply.im, .string x.1.reply.text, .slice t1 t2 t3] 69 (0, 0)) := by rw [← hV]; exact World.alloc_heap_new wr _
        have g8 := cells_at eV 8 _ rfl
        have g9 := cells_at eV 9 _ rfl
        clear eV
        go_wp2_with (at_builtin; refine wpList_append_own _ rfl _ _ 36 rfl w.heap.size 3 i0 (.int .i64 0) 1 8 Tryz.underlying36 hi hz0 hz1 hz2 rfl (by decide) _ _ _ rfl (HRV.out.alloc _) ⟨V.heap.size, 0, none⟩ 1 1 [.int .i64 (k : Int)] rfl rfl (cell_one_new _ _ _) (by simp [Value.oneCell']) (by unfold maxLen; omega) (by omega) (by simp; omega) ?_; intro v' w4 hown hgrow _; have R := hide (show w4.ownsRow w.heap.size 3 1 v' (opnTo cs t (k + 1)).length (natsH (opnTo cs t (k + 1))) from by rw [HF.out, natsH_snoc, List.length_append]; exact hown); have RB := hide (show Below w.heap.size w w4 from ((HBV.out.alloc HBV.out.size _).grown hgrow (by have := HBV.out.size; simp; omega) (fun r e => (HRV.out.lt r e).1))); clear hown hgrow)
        go_roundw
        case rel => exact ⟨k + 1, by omega, by go_num, R.out, RB.out⟩
        case measure => simp [intOf]; omega
      · have HF := hide (HN.out (by unfold isOpn; simp [h1, h2]; omega))
        have hd2 : decide (t ≤ x.1.res) = false := by simpa using h3
        clear HY HN
        go_wp2
        go_roundw
        case rel => exact ⟨k + 1, by omega, by go_num, by rw [HF.out]; exact HR.out.alloc _, alloc_v HB.out _⟩
        case measure => simp [intOf]; omega
    · have he : k = cs.length := by omega
      subst he
      have R := hide (And.intro hrow hbel)
      clear hrow hbel
      go_wp2
      go_ret2
      exact ⟨⟨_, rfl, R.out.1⟩, R.out.2⟩
/-- The number of a name. -/
def idxN (l : List (List UInt8)) (s : List UInt8) : Int := Lib.idxOfS (l.map bsN) (bsN s)
set_option maxRecDepth 100000 in
set_option maxHeartbeats 1000000 in
theorem procP_k (w : World) (v0 v1 v2 : Value) (P : List (List UInt8)) (h0 : NamesAt w w.heap.size v0 P) (hv1 : ∃ a m c, v1 = .slice a m c) (hv2 : ∃ a m c, v2 = .slice a m c) (s : List UInt8) :
    Calls Tryz.prog 24 #[.agg #[v0, v1, v2], .string (bsN s)] w fun e w' => e = .returned (.int .i64 (idxN P s)) ∧ Below w.heap.size w w' := by
  obtain ⟨a0, c0, rfl, hl0⟩ := h0.len
  obtain ⟨a1, m1, c1, rfl⟩ := hv1
  obtain ⟨a2, m2, c2, rfl⟩ := hv2
  obtain ⟨W, hW⟩ : ∃ W, w.alloc (.cells #[.slice a0 P.length c0, .slice a1 m1 c1, .slice a2 m2 c2] 25) = W := ⟨_, rfl⟩
  have bW : Below w.heap.size w W := by rw [← hW]; exact alloc_v (Below.refl _ _) _
  have e1 : W.heap[w.heap.size]? = some (.cells #[.slice a0 P.length c0, .slice a1 m1 c1, .slice a2 m2 c2] 25 (0, 0)) := by rw [← hW]; exact World.alloc_heap_new w _
  have hC : Calls Tryz.prog 37 #[.slice a0 P.length c0, .string (bsN s)] W fun e w' => e = .returned (.int .i64 (idxN P s)) ∧ W = w' := by
    rcases Nat.eq_zero_or_pos P.length with hp | hp
    · have e : P = [] := List.eq_nil_of_length_eq_zero hp
      subst e
      refine (Tryz.slices_Index_string_empty a0 c0 (bsN s) W).mono ?_
      rintro e w' ⟨rfl, rfl⟩
      exact ⟨rfl, rfl⟩
    · obtain ⟨b1, o1, rfl, hc⟩ := (h0.below bW).rowS hp
      refine (Tryz.slices_Index_string b1 o1 P.length c0 (P.map bsN) (bsN s) W (by simp) (by omega) hc).mono ?_
      rintro e w' ⟨rfl, rfl⟩
      refine ⟨?_, rfl⟩
      rw [List.take_of_length_le (by simp)]
      rfl
  have HC := hide hC
  have x0 := cells_at e1 0 _ rfl
  clear hC h0 e1
  go_enter Tryz.func24, Tryz.ntmps24
  go_wp2_with (go_at_call 37; refine HC.out.mono ?_; clear HC; rintro r w1 ⟨rfl, rfl⟩)
  go_ret
  exact ⟨rfl, bW⟩
end Go.Proofs.YtnmkggoampkekaaGreatDoor
