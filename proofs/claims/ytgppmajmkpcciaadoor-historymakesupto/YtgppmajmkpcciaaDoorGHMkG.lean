/- What both sides make of the same events is the same. -/
import Derived.Test.YtgppmajmkpcciaaDoorGHRfC
import Derived.Test.YtgppmajmkpcciaaDoorGHSmG
import Derived.Test.YtgppmajmkpcciaaDoorZHEvp
import Derived.Test.YtgppmajmkpcciaaDoorZHTel
import Derived.Test.YtgppmajmkpcciaaDoorGHHd
import Derived.Test.YtgppmajmkpcciaaDoorZHSmr
namespace Go.Proofs.YtgppmajmkpcciaaDoor
open Go.RowKit Go.Maps

theorem ill_one {l : List Evn} {a a' : Nat} {c c' : Int} (h : IllR l a c) (hc : c ≠ 0) (h' : IllR l a' c') (hc' : c' ≠ 0) : a = a' ∧ c = c' := by
  rcases h with ⟨h, _⟩ | ⟨h1, h2, _, h3⟩
  · exact absurd h hc
  · rcases h' with ⟨h', _⟩ | ⟨k1, k2, _, k3⟩
    · exact absurd h' hc'
    · have h4 : ¬ a < a' := fun hl => hc (h2.trans (k3 a h1 hl))
      have h5 : ¬ a' < a := fun hl => hc' (k2.trans (h3 a' k1 hl))
      have h6 : a = a' := by omega
      subst h6
      exact ⟨rfl, h2.trans k2.symm⟩
theorem refused_one {l : List Evn} {a a' : Nat} {c c' : Int} (h : Refused l a c) (h' : Refused l a' c') : a = a' ∧ c = c' := by
  rcases h with ⟨h1, h2⟩ | ⟨h1, h2, h3, h4⟩
  · rcases h' with ⟨k1, k2⟩ | ⟨k1, k2, k3, k4⟩
    · exact ill_one h1 h2 k1 k2
    · rcases h1 with ⟨e, _⟩ | ⟨hl, e, e', _⟩
      · exact absurd e h2
      · exact absurd (e.trans (k1 a hl hl)) e'
  · rcases h' with ⟨k1, k2⟩ | ⟨k1, k2, k3, k4⟩
    · rcases k1 with ⟨e, _⟩ | ⟨hl, e, e', _⟩
      · exact absurd e k2
      · exact absurd (e.trans (h1 a' hl hl)) e'
    · have h5 : ¬ a < a' := fun hl => by have := k3.2 a hl; rw [h3.1] at this; cases this
      have h6 : ¬ a' < a := fun hl => by have := h3.2 a' hl; rw [k3.1] at this; cases this
      exact ⟨by omega, by rw [h4, k4]⟩
/-- What the two come to. -/
def gOf (l : List Evn) (code : Int) : Gs := if code = 0 then gAt l l.length else ⟨[], [], [], []⟩
theorem names_small {l : List Evn} (h : ∀ j (hj : j < l.length), EvOk l[j]) : ∀ k, (∀ s ∈ (gAt l k).procs, s.length ≤ 1048576) ∧ ∀ s ∈ (gAt l k).objs, s.length ≤ 1048576
  | 0 => ⟨fun s h => by simp [gAt] at h, fun s h => by simp [gAt] at h⟩
  | k + 1 => by
    obtain ⟨h1, h2⟩ := names_small h k
    by_cases hk : k < l.length
    · rw [gAt_succ l k hk]
      have a1 : ∀ s ∈ addN (gAt l k).procs l[k].proc, s.length ≤ 1048576 := fun s hs => by
        rcases mem_add.1 hs with hs | rfl
        · exact h1 s hs
        · exact (h k hk).proc
      have a2 : ∀ s ∈ addN (gAt l k).objs l[k].obj, s.length ≤ 1048576 := fun s hs => by
        rcases mem_add.1 hs with hs | rfl
        · exact h2 s hs
        · exact (h k hk).obj
      unfold takeM
      split
      · exact ⟨a1, h2⟩
      · exact ⟨a1, a2⟩
    · rw [gAt, dif_neg hk]
      exact ⟨h1, h2⟩
theorem hpast_nil (w : World) (B n : Nat) : HPast w B n (.slice none 0 0) (.slice none 0 0) (.slice none 0 0) [] [] [] :=
  ⟨⟨none, 0, rfl, by simp, fun j h => by simp at h⟩, ⟨none, 0, rfl, by simp, fun j h => by simp at h⟩, ⟨none, 0, rfl, by simp, fun j h => by simp at h⟩, fun x h => by simp at h, fun s h => by simp at h, fun s h => by simp at h⟩
theorem RAt.past {w : World} {h0 n : Nat} {I : Nat → Prop} {g : Gs} {v0 v1 v2 : Value} {rs : List CV} (h : RAt w h0 n I g v0 v1 v2 rs) (hp : g.procs.length ≤ 1000000000) (ho : g.objs.length ≤ 1000000000) (hc : g.calls.length ≤ 1000000000) (np : ∀ s ∈ g.procs, s.length ≤ 1048576) (no : ∀ s ∈ g.objs, s.length ≤ 1048576) : HPast w w.heap.size n v0 v1 v2 g.procs g.objs (rs.map hvOf) := by
  have hrl : rs.length = g.calls.length := by have := congrArg List.length h.same; simpa using this
  have hcl := h.cl
  rw [← hrl] at hcl
  refine ⟨NamesAt.row h.pr hp, NamesAt.row h.ob ho, HvsAt.row hcl (by omega), fun x hx => ?_, np, no⟩
  obtain ⟨y, hy, rfl⟩ := List.mem_map.1 hx
  have := h.its y hy
  exact ⟨this.1.at (fun b hb => (h.no b hb).1), this.2.1.at (fun b hb => (h.no b hb).1), this.2.2⟩
theorem hv_fst {rs : List CV} {cl : List Cl} (h : rs.map (·.1) = cl) : (rs.map hvOf).map (·.1) = cl.map chOf := by
  subst h
  simp [List.map_map, Function.comp_def, hvOf]
theorem RMakeR.past {l : List Evn} {n h0 : Nat} {w' : World} {v0 v1 v2 : Value} {a : Nat} {c : Int} (h : RMakeR l n h0 w' v0 v1 v2 a c) (hl : l.length ≤ 1000000000) (ho : ∀ j (hj : j < l.length), EvOk l[j]) : ∃ cs, HPast w' w'.heap.size n v0 v1 v2 (gOf l c).procs (gOf l c).objs cs ∧ cs.map (·.1) = (gOf l c).calls.map chOf := by
  rcases h with ⟨h, rfl, rfl, rfl⟩ | ⟨rfl, _, _, _, rs, I, hr⟩
  · unfold gOf
    rw [if_neg (refused_no h).1]
    exact ⟨[], hpast_nil _ _ _, rfl⟩
  · unfold gOf
    rw [if_pos rfl]
    have hs := gAt_small l l.length
    have hn := names_small ho l.length
    exact ⟨_, hr.past (by omega) (by omega) (by omega) hn.1 hn.2, hv_fst hr.same⟩
theorem MakeR.past {l : List Evn} {n h0 : Nat} {w' : World} {v0 v1 v2 : Value} {a : Nat} {c : Int} (h : MakeR l n h0 w' v0 v1 v2 a c) (hl : l.length ≤ 1000000000) (ho : ∀ j (hj : j < l.length), EvOk l[j]) : ∃ cs, HPast w' w'.heap.size n v0 v1 v2 (gOf l c).procs (gOf l c).objs cs ∧ cs.map (·.1) = (gOf l c).calls.map chOf := by
  rcases h with ⟨h, rfl, rfl, rfl⟩ | ⟨rfl, _, _, _, rs, L, _, _, hr⟩
  · unfold gOf
    rw [if_neg (refused_no h).1]
    exact ⟨[], hpast_nil _ _ _, rfl⟩
  · unfold gOf
    rw [if_pos rfl]
    have hs := gAt_small l l.length
    have hn := names_small ho l.length
    exact ⟨_, hr.past (by omega) (by omega) (by omega) hn.1 hn.2, hv_fst hr.same⟩
theorem both_one {l : List Evn} {n h0 m h1 : Nat} {w w' : World} {v0 v1 v2 u0 u1 u2 : Value} {a a' : Nat} {c c' : Int} (h : MakeR l n h0 w v0 v1 v2 a c) (h' : RMakeR l m h1 w' u0 u1 u2 a' c') : a' = a ∧ c' = c := by
  rcases h with ⟨h, _⟩ | ⟨rfl, rfl, h1, h2, _⟩
  · rcases h' with ⟨h', _⟩ | ⟨rfl, rfl, k1, k2, _⟩
    · have := refused_one h h'
      exact ⟨this.1.symm, this.2.symm⟩
    · exact absurd ⟨k1, k2⟩ (refused_no h).2
  · rcases h' with ⟨h', _⟩ | ⟨rfl, rfl, k1, k2, _⟩
    · exact absurd ⟨h1, h2⟩ (refused_no h').2
    · exact ⟨rfl, rfl⟩
theorem RMakeR.forms {l : List Evn} {n h0 : Nat} {w' : World} {v0 v1 v2 : Value} {a : Nat} {c : Int} (h : RMakeR l n h0 w' v0 v1 v2 a c) : (∃ a m c, v0 = .slice a m c) ∧ (∃ a m c, v1 = .slice a m c) ∧ ∃ a m c, v2 = .slice a m c := by
  rcases h with ⟨_, rfl, rfl, rfl⟩ | ⟨_, _, _, _, rs, I, hr⟩
  · exact ⟨⟨_, _, _, rfl⟩, ⟨_, _, _, rfl⟩, ⟨_, _, _, rfl⟩⟩
  · exact hr.forms
theorem MakeR.forms {l : List Evn} {n h0 : Nat} {w' : World} {v0 v1 v2 : Value} {a : Nat} {c : Int} (h : MakeR l n h0 w' v0 v1 v2 a c) : (∃ a m c, v0 = .slice a m c) ∧ (∃ a m c, v1 = .slice a m c) ∧ ∃ a m c, v2 = .slice a m c := by
  rcases h with ⟨_, rfl, rfl, rfl⟩ | ⟨_, _, _, _, rs, L, _, _, hr⟩
  · exact ⟨⟨_, _, _, rfl⟩, ⟨_, _, _, rfl⟩, ⟨_, _, _, rfl⟩⟩
  · obtain ⟨x0, y0, h0⟩ := rowLen hr.pr
    obtain ⟨x1, y1, h1⟩ := rowLen hr.ob
    obtain ⟨x2, y2, h2⟩ := rowLen hr.cl
    exact ⟨⟨_, _, _, h0⟩, ⟨_, _, _, h1⟩, ⟨_, _, _, h2⟩⟩
theorem EvsAt.oks {w : World} {B n : Nat} {sl : Value} {l : List Evn} (h : EvsAt w B n sl l) : ∀ j (hj : j < l.length), EvOk l[j] := by
  intro j hj
  obtain ⟨a, c, e, _, hc⟩ := h
  obtain ⟨b, off, s', e, hb, h0, h1, h2, h3⟩ := hc j hj
  exact h2
/-- Events with copies for values, as events in memory. -/
theorem EHalf.evs {w wr : World} {L n g : Nat} {E E' : List EV} (h : EHalf w wr L n g E.length E E') (hl : E.length ≤ 1000000000) (hg : EvsGood w w.heap.size n E) : EvsAt wr wr.heap.size n (.slice (some ⟨g, 0, none⟩) E.length E.length) (E.map (·.1)) := by
  have hlen := h.len
  have hr := h.row
  rw [← hlen] at hr ⊢
  rw [← h.same]
  refine evs_of_row hr (by omega) (fun x hx => ?_) (Nat.le_refl _)
  obtain ⟨j, hj, rfl⟩ := List.getElem_of_mem hx
  have e : E'[j].1 = (E[j]'(by omega)).1 := by
    have := congrArg (fun z => z[j]?) h.same
    simpa [hj, show j < E.length by omega] using this
  have hgj := hg (E[j]'(by omega)) (List.getElem_mem _)
  exact ⟨(h.new j hj (by omega)).in.at (fun b hb => hb.2.1), by rw [e]; exact hgj.2⟩
end Go.Proofs.YtgppmajmkpcciaaDoor

/- HistoryMakes answers true: the walk. -/
namespace Go.Proofs.YtgppmajmkpcciaaDoor
open Go.RowKit Go.Maps

set_option maxRecDepth 100000 in
set_option maxHeartbeats 8000000 in
theorem historyMakes_walk (l : List Evn) (w : World) (n : Nat) (sl : Value) (hT : TabL w) (hi : EvsAt w w.heap.size (n + 1) sl l) (hln : l.length ≤ 10000000) :
    Calls Tryd.prog 3 #[sl] w fun e w' => e = .returned (.bool true) ∧ Below w.heap.size w w' := by
  have HI := hide hi
  have HT := hide hT
  have HOK := hide hi.oks
  have HCP := hide (copyE_k l w (n + 1) sl hi (by omega))
  obtain ⟨a, c, rfl, hlen⟩ := hi.len
  clear hi hT
  go_enter Tryd.func3, Tryd.ntmps3
  go_upto_region 2 with (go_at_call 5; refine HCP.out.mono ?_; clear HCP; rintro r w1 ⟨v, rfl, ev1, b1⟩; obtain ⟨a1, c1, rfl, _⟩ := ev1.len; have EV1 := hide ev1; have B1 := hide b1; have HMK := hide (make_k l w1 n _ (HT.out.below b1) ev1); clear ev1 b1)
  go_upto_region 3 with (go_at_call 6; refine HMK.out.mono ?_; clear HMK; rintro r w2 ⟨⟨p0, p1, p2, at', code, rfl, hmk⟩, b2⟩; obtain ⟨⟨pa0, pm0, pc0, rfl⟩, ⟨pa1, pm1, pc1, rfl⟩, ⟨pa2, pm2, pc2, rfl⟩⟩ := hmk.forms; have MK := hide hmk; have B2 := hide b2; clear hmk b2)
  obtain ⟨X, hX⟩ : ∃ X, w2.alloc (.cells #[.slice pa0 pm0 pc0, .slice pa1 pm1 pc1, .slice pa2 pm2 pc2] 27) = X := ⟨_, rfl⟩
  rw [hX]
  have bX : Below w2.heap.size w2 X := by rw [← hX]; exact alloc_v (Below.refl _ _) _
  have eX : X.heap[w2.heap.size]? = some (.cells #[.slice pa0 pm0 pc0, .slice pa1 pm1 pc1, .slice pa2 pm2 pc2] 27 (0, 0)) := by rw [← hX]; exact World.alloc_heap_new w2 _
  have zX : X.heap.size = w2.heap.size + 1 := by rw [← hX]; simp
  have BWX := hide (trans_v (trans_v B1.out B2.out) bX)
  have HRM := hide (refMake_k l X n _ ((HI.out.below BWX.out).up BWX.out.size))
  clear hX
  go_upto_region 4 with (go_at_call 7; refine HRM.out.mono ?_; clear HRM; rintro r w3 ⟨⟨q0, q1, q2, at2, code2, rfl, hrm⟩, b3⟩; obtain ⟨⟨qa0, qm0, qc0, rfl⟩, ⟨qa1, qm1, qc1, rfl⟩, ⟨qa2, qm2, qc2, rfl⟩⟩ := hrm.forms; obtain ⟨rfl, rfl⟩ := both_one MK.out hrm; have RM := hide hrm; have B3 := hide b3; clear hrm b3)
  obtain ⟨Y, hY⟩ : ∃ Y, w3.alloc (.cells #[.slice qa0 qm0 qc0, .slice qa1 qm1 qc1, .slice qa2 qm2 qc2] 27) = Y := ⟨_, rfl⟩
  rw [hY]
  have bY : Below w3.heap.size w3 Y := by rw [← hY]; exact alloc_v (Below.refl _ _) _
  have eY : Y.heap[w3.heap.size]? = some (.cells #[.slice qa0 qm0 qc0, .slice qa1 qm1 qc1, .slice qa2 qm2 qc2] 27 (0, 0)) := by rw [← hY]; exact World.alloc_heap_new w3 _
  have zY : Y.heap.size = w3.heap.size + 1 := by rw [← hY]; simp
  clear hY
  have bXY := trans_v B3.out bY
  have z3 := B3.out.size
  have fX := (bXY.block w2.heap.size (by omega)).trans eX
  have b2Y := trans_v bX bXY
  have BWY := hide (trans_v BWX.out bXY)
  obtain ⟨cs, hp, hcs⟩ := MK.out.past (by omega) HOK.out
  obtain ⟨cs', hq, hcs'⟩ := RM.out.past (by omega) HOK.out
  have HSP := hide (fun (U : World) (b : Below Y.heap.size Y U) => sameP_yes U (n + 1) (n + 1) _ _ _ _ _ _ _ _ cs cs' ((hp.below (trans_v b2Y b)).up (trans_v b2Y b).size) ((hq.below (trans_v bY b)).up (trans_v bY b).size) (hcs.trans hcs'.symm))
  have HSE := hide (fun (U : World) (b : Below w1.heap.size w1 U) => sameE_yes l l U (n + 1) (n + 1) _ _ ((EV1.out.below b).up b.size) ((HI.out.below (trans_v B1.out b)).up (trans_v B1.out b).size) rfl (fun j _ _ => EqE.refl _))
  have HHD := hide (fun (U : World) (b : Below w.heap.size w U) => heads7_k U (HT.out.below b))
  have FX := hide fX
  have EY := hide eY
  have B2Y := hide b2Y
  have B1Y := hide (trans_v B2.out b2Y)
  have x0 := cells_at fX 0 _ rfl
  have x1 := cells_at fX 1 _ rfl
  have x2 := cells_at fX 2 _ rfl
  have y0 := cells_at eY 0 _ rfl
  have y1 := cells_at eY 1 _ rfl
  have y2 := cells_at eY 2 _ rfl
  have HSP1 := hide (HSP.out Y (Below.refl _ _))
  clear fX eX eY b2Y bXY bX bY hp hq hcs hcs' cs cs'
  go_upto_if 51 with (first
    | (go_at_call 8; refine HSP1.out.mono ?_; clear HSP1; rintro r w4 ⟨rfl, b4⟩; have B4 := hide b4; have HSE1 := hide (HSE.out w4 (trans_v B1Y.out b4)); clear b4)
    | (go_at_call 9; refine HSE1.out.mono ?_; clear HSE1; rintro r w5 ⟨rfl, b5⟩; have B5 := hide (trans_v B4.out b5); have HHD1 := hide (HHD.out w5 (trans_v BWY.out B5.out)); clear b5)
    | (go_at_call 10; refine HHD1.out.mono ?_; clear HHD1; rintro r w6 ⟨rfl, b6⟩; have B6 := hide (trans_v B5.out b6); clear b6))
  clear x0 x1 x2 y0 y1 y2
  by_cases hcz : code2 = 0
  rotate_left
  · have hcb : (code2 != 0) = true := by simpa using hcz
    clear hcz
    go_wp2
    go_ret
    exact ⟨rfl, trans_v BWY.out B6.out⟩
  · subst hcz
    rcases MK.out with ⟨h, _⟩ | ⟨_, _, hfine, hno, rs, L, hL1, hL2, hmade⟩
    · exact absurd rfl (refused_no h).1
    have hsm := gAt_small l l.length
    have hnm := names_small HOK.out l.length
    have hpast := hmade.past (by omega) (by omega) (by omega) hnm.1 hnm.2
    have hrl : rs.length = (gAt l l.length).calls.length := by have := congrArg List.length hmade.same; simpa using this
    obtain ⟨E, hlm, hEm⟩ := laid_made l hfine rs hmade.same
    have hag := agree_made l hfine hno rs hmade.same
    rw [← hEm] at hag
    have hEl : E.length = l.length := by have := congrArg List.length hEm; simpa using this
    have b26 := trans_v B2Y.out B6.out
    have HEV := hide (eventsP_k w6 n _ _ _ _ _ (rs.map hvOf) (HT.out.below (trans_v BWY.out B6.out)) ((hpast.below b26).up b26.size) (by rw [List.length_map]; omega) E hlm hag (by omega))
    have HGD := hide (laidN_good ((hpast.below b26).up b26.size) _ E hlm)
    have HMD := hide hmade
    have B26 := hide b26
    have HEM := hide hEm
    have HEL := hide hEl
    have HRL := hide hrl
    have z2Y := B2Y.out.size
    have z6 := B6.out.size
    have f6 := (B6.out.block w2.heap.size (by omega)).trans FX.out
    have x0 := cells_at f6 0 _ rfl
    have x1 := cells_at f6 1 _ rfl
    have x2 := cells_at f6 2 _ rfl
    clear hpast hlm hag hEm hEl hrl b26 hmade hsm hnm hfine hno f6
    go_upto_region 9 with (go_at_call 11; refine HEV.out.mono ?_; clear HEV; rintro r w7 ⟨⟨g, E', rfl, hEH⟩, b7⟩; have EH := hide hEH; have B7 := hide b7; clear hEH b7)
    clear x0 x1 x2
    have hEl := HEL.out
    have bw7 := trans_v (trans_v BWY.out B6.out) B7.out
    have HSE2 := hide (sameE_yes (E.map (·.1)) l w7 (n + 1) (n + 1) _ _ (EH.out.evs (by omega) HGD.out) ((HI.out.below bw7).up bw7.size) (by simpa using hEl) (fun j h h' => by
      have e : (E.map (·.1))[j] = unsp l[j] := by
        have := congrArg (fun z => z[j]?) HEM.out
        simpa [h', show j < E.length by simpa using h] using this
      rw [e]
      exact ⟨rfl, rfl, rfl, rfl, rfl⟩))
    have BW7 := hide bw7
    clear bw7 hEl
    go_upto_if 66 with (go_at_call 9; refine HSE2.out.mono ?_; clear HSE2; rintro r w8 ⟨rfl, b8⟩; have B8 := hide b8; clear b8)
    go_wp2
    have z7 := B7.out.size
    have z8 := B8.out.size
    have hglt := EH.out.row.lt g rfl
    have row8 := (Keeps.below (M := fun _ => False) B8.out).row EH.out.row (fun _ _ h => h)
    have HE'L := hide EH.out.len
    go_loopw [12] (fun i wr => ∃ k : Nat, k ≤ E.length ∧ i = .int .i64 k ∧ Smeared w6.heap.size (fun b => w6.heap.size ≤ b ∧ b < w7.heap.size ∧ b ≠ g) w8 wr) (fun i _ => E.length - (intOf i).toNat)
    case atStart => exact ⟨0, Nat.zero_le _, rfl, Smeared.refl _ _ _⟩
    case round =>
      obtain ⟨k, hk, rfl, hM⟩ := hrel
      have zM := hM.2.1.size
      by_cases hlt : k < E.length
      · have hkl : k < l.length := by have := HEL.out; omega
        have hkE : k < E'.length := by have := HE'L.out; omega
        have hx1 : E'[k].1 = unsp l[k] := by
          have h1 := congrArg (fun z => z[k]?) (EH.out.same.trans HEM.out)
          simpa [hkE, hkl] using h1
        have hsm := hM.1 _ _ (((EH.out.new k hkE hlt).kept (fun b hb hb2 => B8.out.block b hb2) (fun b hb => hb)).sm)
        obtain ⟨x, hx⟩ : ∃ x, E'[k] = x := ⟨_, rfl⟩
        have hblk := hM.2.2 g (fun h => h.2.2 rfl) (by omega)
        have hce : ∀ i v, (evOf x)[i]? = some v → wr.cell? ⟨g, k * 12 + i, none⟩ = some v := fun i v h => by
          have hi12 : i < 12 := by
            have := (List.getElem?_eq_some_iff.1 h).1
            rwa [evOf_len] at this
          rw [cell_block hblk, row8.cellAt (k * 12 + i) (by have := Nat.mul_le_mul_right 12 (show k + 1 ≤ E.length by omega); omega), erow_get E' k hkE i hi12, hx]
          exact h
        rw [hx] at hx1 hsm
        obtain ⟨xe, xs⟩ := x
        dsimp only at hx1 hsm
        subst hx1
        have p4 := hce 4 _ rfl
        have p5 := hce 5 _ rfl
        have p6 := hce 6 _ rfl
        have p7 := hce 7 _ rfl
        have p8 := hce 8 _ rfl
        have p9 := hce 9 _ rfl
        have p10 := hce 10 _ rfl
        have p11 := hce 11 _ rfl
        dsimp only [unsp] at p4 p5 p6 p7 p8 p9 p10 p11 hsm
        have HSM := hide (smearH_k (n + 1) w6.heap.size (fun b => w6.heap.size ≤ b ∧ b < w7.heap.size ∧ b ≠ g) wr l[k].val.kind l[k].val.int l[k].val.im l[k].val.text xs (fun b hb => ⟨hb.1, by have := hb.2.1; omega⟩) (by omega) hsm)
        obtain ⟨xa, xl, xc, rfl, _⟩ := id hsm
        have HM := hide hM
        clear hce hsm hM hblk hx
        go_wp2_with (go_at_call 12; refine HSM.out.mono ?_; clear HSM; rintro r w9 ⟨⟨rv, rfl⟩, h9⟩; have H9 := hide (HM.out.trans h9); clear h9)
        go_roundw
        case rel => exact ⟨k + 1, by omega, by go_num, H9.out⟩
        case measure => simp [intOf]; omega
      · have hb9 := hM.2.1
        have HM := hide hM
        have b69 := (B7.out.trans (B8.out.mono z7)).trans hb9
        have b2r := B26.out.trans (b69.mono B26.out.size)
        have bYr := B6.out.trans (b69.mono (by omega))
        have f9 := (bYr.block w2.heap.size (by omega)).trans FX.out
        have g9 := (bYr.block w3.heap.size (by omega)).trans EY.out
        have x0 := cells_at f9 0 _ rfl
        have x1 := cells_at f9 1 _ rfl
        have x2 := cells_at f9 2 _ rfl
        have y0 := cells_at g9 0 _ rfl
        have y1 := cells_at g9 1 _ rfl
        have y2 := cells_at g9 2 _ rfl
        have HS3 := hide (HSP.out wr bYr)
        have B2R := hide b2r
        have BYR := hide bYr
        clear hM hb9 b69 b2r bYr f9 g9
        go_upto_if 89 with (go_at_call 8; refine HS3.out.mono ?_; clear HS3; rintro r wA ⟨rfl, bA⟩; have BA := hide bA; clear bA)
        clear x0 x1 x2 y0 y1 y2
        go_wp2
        have BA2 := hide (trans_v B2R.out BA.out)
        have B1A := hide (trans_v B2.out BA2.out)
        have zA := BA2.out.size
        have hrl := HRL.out
        have fA := (BA.out.block w2.heap.size (by have := B2R.out.size; have := BYR.out.size; omega)).trans ((BYR.out.block w2.heap.size (by omega)).trans FX.out)
        have hpm : pm2 = rs.length := by
          obtain ⟨x, y, e⟩ := rowLen HMD.out.cl
          simp only [Value.slice.injEq] at e
          omega
        have hrsb : rs.length ≤ 10000000 := by
          have h1 := (gAt_small l l.length).2.2.1
          omega
        have z2A : w2.heap.size < wA.heap.size := (Array.getElem?_eq_some_iff.1 fA).1
        subst hpm
        have FA := hide fA
        clear hrl fA
        go_loopw [13] (fun i wr => ∃ k : Nat, k ≤ rs.length ∧ i = .int .i64 k ∧ Smeared w1.heap.size (fun b => w1.heap.size ≤ b ∧ b < w2.heap.size ∧ some b ≠ (Value.slice pa2 rs.length pc2).ownBlock) wA wr) (fun i _ => rs.length - (intOf i).toNat)
        case atStart => exact ⟨0, Nat.zero_le _, rfl, Smeared.refl _ _ _⟩
        case round =>
          rename_i wold
          obtain ⟨k, hk, rfl, hM⟩ := hrel
          have zM := hM.2.1.size
          have fr := (hM.2.2 w2.heap.size (fun h => by have := h.2.1; omega) z2A).trans FA.out
          have x2 := cells_at fr 2 _ rfl
          by_cases hlt : k < rs.length
          · have hcl := HMD.out.cl
            rw [← HRL.out] at hcl
            obtain ⟨gc, cc, ec, lc, ltc⟩ := hcl.form (by omega)
            simp only [Value.slice.injEq] at ec
            obtain ⟨rfl, _, rfl⟩ := ec
            obtain ⟨x, hx⟩ : ∃ x, rs[k] = x := ⟨_, rfl⟩
            have hown := HMD.out.own x (by rw [← hx]; exact List.getElem_mem _)
            have hsmA : ∀ U, Smeared w1.heap.size (fun b => w1.heap.size ≤ b ∧ b < w2.heap.size ∧ some b ≠ (Value.slice (some ⟨gc, 0, none⟩) rs.length pc2).ownBlock) wA U → SmAt U (fun b => w1.heap.size ≤ b ∧ b < w2.heap.size ∧ some b ≠ (Value.slice (some ⟨gc, 0, none⟩) rs.length pc2).ownBlock) (n + 1) x.2.1 ∧ SmAt U (fun b => w1.heap.size ≤ b ∧ b < w2.heap.size ∧ some b ≠ (Value.slice (some ⟨gc, 0, none⟩) rs.length pc2).ownBlock) (n + 1) x.2.2 := fun U hU =>
              ⟨hU.1 _ _ ((hown.1.kept (fun b hb hb2 => BA2.out.block b hb2) (fun b hb => hb)).sm), hU.1 _ _ ((hown.2.kept (fun b hb hb2 => BA2.out.block b hb2) (fun b hb => hb)).sm)⟩
            have hceA : ∀ U, Smeared w1.heap.size (fun b => w1.heap.size ≤ b ∧ b < w2.heap.size ∧ some b ≠ (Value.slice (some ⟨gc, 0, none⟩) rs.length pc2).ownBlock) wA U → ∀ i v, (clOf x)[i]? = some v → U.cell? ⟨gc, k * 15 + i, none⟩ = some v := fun U hU i v h => by
              have hi15 : i < 15 := by
                have := (List.getElem?_eq_some_iff.1 h).1
                rwa [clOf_len] at this
              rw [cell_block ((hU.2.2 gc (fun h => h.2.2 rfl) (by omega)).trans (BA2.out.block gc ltc)), hcl.cellAt (k * 15 + i) (by have := Nat.mul_le_mul_right 15 (show k + 1 ≤ rs.length by omega); omega), crow_get rs k hlt i hi15, hx]
              exact h
            have hSb : ∀ (U : World), wA.heap.size ≤ U.heap.size → ∀ b, (fun b => w1.heap.size ≤ b ∧ b < w2.heap.size ∧ some b ≠ (Value.slice (some ⟨gc, 0, none⟩) rs.length pc2).ownBlock) b → w1.heap.size ≤ b ∧ b < U.heap.size := fun U hz b hb => ⟨hb.1, by have := hb.2.1; omega⟩
            have z1A := B1A.out.size
            obtain ⟨c3, s1, s2⟩ := x
            dsimp only at hown hsmA
            have HS1 := hide (smearH_k (n + 1) w1.heap.size (fun b => w1.heap.size ≤ b ∧ b < w2.heap.size ∧ some b ≠ (Value.slice (some ⟨gc, 0, none⟩) rs.length pc2).ownBlock) wr c3.arg.kind c3.arg.int c3.arg.im c3.arg.text s1 (hSb wr zM) (by omega) (hsmA wr hM).1)
            have HS2 := hide (fun (U : World) (hU : Smeared w1.heap.size (fun b => w1.heap.size ≤ b ∧ b < w2.heap.size ∧ some b ≠ (Value.slice (some ⟨gc, 0, none⟩) rs.length pc2).ownBlock) wA U) => smearH_k (n + 1) w1.heap.size (fun b => w1.heap.size ≤ b ∧ b < w2.heap.size ∧ some b ≠ (Value.slice (some ⟨gc, 0, none⟩) rs.length pc2).ownBlock) U c3.reply.kind c3.reply.int c3.reply.im c3.reply.text s2 (hSb U hU.2.1.size) (by have := hU.2.1.size; omega) (hsmA U hU).2)
            obtain ⟨xa, xl, xc, rfl, _⟩ := id (hsmA wr hM).1
            obtain ⟨ya, yl, yc, rfl, _⟩ := id (hsmA wr hM).2
            have p3 := hceA wr hM 3 _ rfl
            have p4 := hceA wr hM 4 _ rfl
            have p5 := hceA wr hM 5 _ rfl
            have p6 := hceA wr hM 6 _ rfl
            have p7 := hceA wr hM 7 _ rfl
            dsimp only at p3 p4 p5 p6 p7
            have HCE := hide hceA
            have HM := hide hM
            have HFR := hide (fun (U : World) (hU : Smeared w1.heap.size (fun b => w1.heap.size ≤ b ∧ b < w2.heap.size ∧ some b ≠ (Value.slice (some ⟨gc, 0, none⟩) rs.length pc2).ownBlock) wA U) => (hU.2.2 w2.heap.size (fun h => by have := h.2.1; omega) z2A).trans FA.out)
            clear hown hsmA hceA hM fr hcl hx hSb
            go_wp2_with (first
              | (go_at_call 12; refine HS1.out.mono ?_; clear HS1; rintro r wB ⟨⟨rv, rfl⟩, hB⟩; have hB2 := HM.out.trans hB; have fB := HFR.out wB hB2; have xB2 := cells_at fB 2 _ rfl; have t3 := HCE.out wB hB2 10 _ rfl; have t4 := HCE.out wB hB2 11 _ rfl; have t5 := HCE.out wB hB2 12 _ rfl; have t6 := HCE.out wB hB2 13 _ rfl; have t7 := HCE.out wB hB2 14 _ rfl; dsimp only at t3 t4 t5 t6 t7; have HS3 := hide (HS2.out wB hB2); have HB2 := hide hB2; clear hB hB2 fB HS2)
              | (go_at_call 12; refine HS3.out.mono ?_; clear HS3; rintro r wC ⟨⟨rv', rfl⟩, hC⟩; have HC2 := hide (HB2.out.trans hC); clear hC))
            go_roundw
            case rel => exact ⟨k + 1, by omega, by go_num, HC2.out⟩
            case measure => simp [intOf]; omega
          · have HSEL := hide (HSE.out wr (B1A.out.trans hM.2.1))
            have HMB := hide (B1.out.trans ((B1A.out.trans hM.2.1).mono B1.out.size))
            clear fr hM
            go_wp2_with (go_at_call 9; refine HSEL.out.mono ?_; clear HSEL; rintro r wZ ⟨rfl, bZ⟩; have BZ := hide bZ; clear bZ)
            go_ret
            exact ⟨rfl, trans_v HMB.out BZ.out⟩
end Go.Proofs.YtgppmajmkpcciaaDoor
