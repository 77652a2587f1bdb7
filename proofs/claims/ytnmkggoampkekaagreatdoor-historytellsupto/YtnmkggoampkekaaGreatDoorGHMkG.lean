/- What both sides make of the same events is the same. -/
import Derived.Test.YtnmkggoampkekaaGreatDoorGHRfC
import Derived.Test.YtnmkggoampkekaaGreatDoorGHSmG
import Derived.Test.YtnmkggoampkekaaGreatDoorGHES
import Derived.Test.YtnmkggoampkekaaGreatDoorGHRT
import Derived.Test.YtnmkggoampkekaaGreatDoorGHHd
namespace Go.Proofs.YtnmkggoampkekaaGreatDoor
open Go.RowKit Go.Maps

theorem ill_one {l : List Evn} {a a' : Nat} {c c' : Int} (h : IllR l a c) (hc : c ≠ 0) (h' : IllR l a' c') (hc' : c' ≠ 0) : a = a' ∧ c = c' := by
  rcases h with ⟨h, _⟩ | ⟨h1, h2, _, h3⟩
  · exact absurd h hc
  · rcases h' with ⟨h', _⟩ | ⟨k1, k2, _, k3⟩
    · exact absurd h' hc'
    · have h4 : ¬ a < a' := fun hl => hc (h2.trans (k3 a h1 hl))
      have h5 : ¬ a' < a := fun hl => hc' (k2.trans (h3 a' k1 hl))
      have h6 : a = a' := by omega
      subst h6
      exact ⟨rfl, h2.trans k2.symm⟩
theorem refused_one {l : List Evn} {a a' : Nat} {c c' : Int} (h : Refused l a c) (h' : Refused l a' c') : a = a' ∧ c = c' := by
  rcases h with ⟨h1, h2⟩ | ⟨h1, h2, h3, h4⟩
  · rcases h' with ⟨k1, k2⟩ | ⟨k1, k2, k3, k4⟩
    · exact ill_one h1 h2 k1 k2
    · rcases h1 with ⟨e, _⟩ | ⟨hl, e, e', _⟩
      · exact absurd e h2
      · exact absurd (e.trans (k1 a hl hl)) e'
  · rcases h' with ⟨k1, k2⟩ | ⟨k1, k2, k3, k4⟩
    · rcases k1 with ⟨e, _⟩ | ⟨hl, e, e', _⟩
      · exact absurd e k2
      · exact absurd (e.trans (h1 a' hl hl)) e'
    · have h5 : ¬ a < a' := fun hl => by have := k3.2 a hl; rw [h3.1] at this; cases this
      have h6 : ¬ a' < a := fun hl => by have := h3.2 a' hl; rw [k3.1] at this; cases this
      exact ⟨by omega, by rw [h4, k4]⟩
/-- What the two come to. -/
def gOf (l : List Evn) (code : Int) : Gs := if code = 0 then gAt l l.length else ⟨[], [], [], []⟩
theorem names_small {l : List Evn} (h : ∀ j (hj : j < l.length), EvOk l[j]) : ∀ k, (∀ s ∈ (gAt l k).procs, s.length ≤ 1048576) ∧ ∀ s ∈ (gAt l k).objs, s.length ≤ 1048576
  | 0 => ⟨fun s h => by simp [gAt] at h, fun s h => by simp [gAt] at h⟩
  | k + 1 => by
    obtain ⟨h1, h2⟩ := names_small h k
    by_cases hk : k < l.length
    · rw [gAt_succ l k hk]
      have a1 : ∀ s ∈ addN (gAt l k).procs l[k].proc, s.length ≤ 1048576 := fun s hs => by
        rcases mem_add.1 hs with hs | rfl
        · exact h1 s hs
        · exact (h k hk).proc
      have a2 : ∀ s ∈ addN (gAt l k).objs l[k].obj, s.length ≤ 1048576 := fun s hs => by
        rcases mem_add.1 hs with hs | rfl
        · exact h2 s hs
        · exact (h k hk).obj
      unfold takeM
      split
      · exact ⟨a1, h2⟩
      · exact ⟨a1, a2⟩
    · rw [gAt, dif_neg hk]
      exact ⟨h1, h2⟩
theorem hpast_nil (w : World) (B n : Nat) : HPast w B n (.slice none 0 0) (.slice none 0 0) (.slice none 0 0) [] [] [] :=
  ⟨⟨none, 0, rfl, by simp, fun j h => by simp at h⟩, ⟨none, 0, rfl, by simp, fun j h => by simp at h⟩, ⟨none, 0, rfl, by simp, fun j h => by simp at h⟩, fun x h => by simp at h, fun s h => by simp at h, fun s h => by simp at h⟩
theorem RAt.past {w : World} {h0 n : Nat} {I : Nat → Prop} {g : Gs} {v0 v1 v2 : Value} {rs : List CV} (h : RAt w h0 n I g v0 v1 v2 rs) (hp : g.procs.length ≤ 1000000000) (ho : g.objs.length ≤ 1000000000) (hc : g.calls.length ≤ 1000000000) (np : ∀ s ∈ g.procs, s.length ≤ 1048576) (no : ∀ s ∈ g.objs, s.length ≤ 1048576) : HPast w w.heap.size n v0 v1 v2 g.procs g.objs (rs.map hvOf) := by
  have hrl : rs.length = g.calls.length := by have := congrArg List.length h.same; simpa using this
  have hcl := h.cl
  rw [← hrl] at hcl
  refine ⟨NamesAt.row h.pr hp, NamesAt.row h.ob ho, HvsAt.row hcl (by omega), fun x hx => ?_, np, no⟩
  obtain ⟨y, hy, rfl⟩ := List.mem_map.1 hx
  have := h.its y hy
  exact ⟨this.1.at (fun b hb => (h.no b hb).1), this.2.1.at (fun b hb => (h.no b hb).1), this.2.2⟩
theorem hv_fst {rs : List CV} {cl : List Cl} (h : rs.map (·.1) = cl) : (rs.map hvOf).map (·.1) = cl.map chOf := by
  subst h
  simp [List.map_map, Function.comp_def, hvOf]
theorem RMakeR.past {l : List Evn} {n h0 : Nat} {w' : World} {v0 v1 v2 : Value} {a : Nat} {c : Int} (h : RMakeR l n h0 w' v0 v1 v2 a c) (hl : l.length ≤ 1000000000) (ho : ∀ j (hj : j < l.length), EvOk l[j]) : ∃ cs, HPast w' w'.heap.size n v0 v1 v2 (gOf l c).procs (gOf l c).objs cs ∧ cs.map (·.1) = (gOf l c).calls.map chOf := by
  rcases h with ⟨h, rfl, rfl, rfl⟩ | ⟨rfl, _, _, _, rs, I, hr⟩
  · unfold gOf
    rw [if_neg (refused_no h).1]
    exact ⟨[], hpast_nil _ _ _, rfl⟩
  · unfold gOf
    rw [if_pos rfl]
    have hs := gAt_small l l.length
    have hn := names_small ho l.length
    exact ⟨_, hr.past (by omega) (by omega) (by omega) hn.1 hn.2, hv_fst hr.same⟩
theorem MakeR.past {l : List Evn} {n h0 : Nat} {w' : World} {v0 v1 v2 : Value} {a : Nat} {c : Int} (h : MakeR l n h0 w' v0 v1 v2 a c) (hl : l.length ≤ 1000000000) (ho : ∀ j (hj : j < l.length), EvOk l[j]) : ∃ cs, HPast w' w'.heap.size n v0 v1 v2 (gOf l c).procs (gOf l c).objs cs ∧ cs.map (·.1) = (gOf l c).calls.map chOf := by
  rcases h with ⟨h, rfl, rfl, rfl⟩ | ⟨rfl, _, _, _, rs, L, _, _, hr⟩
  · unfold gOf
    rw [if_neg (refused_no h).1]
    exact ⟨[], hpast_nil _ _ _, rfl⟩
  · unfold gOf
    rw [if_pos rfl]
    have hs := gAt_small l l.length
    have hn := names_small ho l.length
    exact ⟨_, hr.past (by omega) (by omega) (by omega) hn.1 hn.2, hv_fst hr.same⟩
theorem both_one {l : List Evn} {n h0 m h1 : Nat} {w w' : World} {v0 v1 v2 u0 u1 u2 : Value} {a a' : Nat} {c c' : Int} (h : MakeR l n h0 w v0 v1 v2 a c) (h' : RMakeR l m h1 w' u0 u1 u2 a' c') : a' = a ∧ c' = c := by
  rcases h with ⟨h, _⟩ | ⟨rfl, rfl, h1, h2, _⟩
  · rcases h' with ⟨h', _⟩ | ⟨rfl, rfl, k1, k2, _⟩
    · have := refused_one h h'
      exact ⟨this.1.symm, this.2.symm⟩
    · exact absurd ⟨k1, k2⟩ (refused_no h).2
  · rcases h' with ⟨h', _⟩ | ⟨rfl, rfl, k1, k2, _⟩
    · exact absurd ⟨h1, h2⟩ (refused_no h').2
    · exact ⟨rfl, rfl⟩
theorem RMakeR.forms {l : List Evn} {n h0 : Nat} {w' : World} {v0 v1 v2 : Value} {a : Nat} {c : Int} (h : RMakeR l n h0 w' v0 v1 v2 a c) : (∃ a m c, v0 = .slice a m c) ∧ (∃ a m c, v1 = .slice a m c) ∧ ∃ a m c, v2 = .slice a m c := by
  rcases h with ⟨_, rfl, rfl, rfl⟩ | ⟨_, _, _, _, rs, I, hr⟩
  · exact ⟨⟨_, _, _, rfl⟩, ⟨_, _, _, rfl⟩, ⟨_, _, _, rfl⟩⟩
  · exact hr.forms
theorem MakeR.forms {l : List Evn} {n h0 : Nat} {w' : World} {v0 v1 v2 : Value} {a : Nat} {c : Int} (h : MakeR l n h0 w' v0 v1 v2 a c) : (∃ a m c, v0 = .slice a m c) ∧ (∃ a m c, v1 = .slice a m c) ∧ ∃ a m c, v2 = .slice a m c := by
  rcases h with ⟨_, rfl, rfl, rfl⟩ | ⟨_, _, _, _, rs, L, _, _, hr⟩
  · exact ⟨⟨_, _, _, rfl⟩, ⟨_, _, _, rfl⟩, ⟨_, _, _, rfl⟩⟩
  · obtain ⟨x0, y0, h0⟩ := rowLen hr.pr
    obtain ⟨x1, y1, h1⟩ := rowLen hr.ob
    obtain ⟨x2, y2, h2⟩ := rowLen hr.cl
    exact ⟨⟨_, _, _, h0⟩, ⟨_, _, _, h1⟩, ⟨_, _, _, h2⟩⟩
theorem EvsAt.oks {w : World} {B n : Nat} {sl : Value} {l : List Evn} (h : EvsAt w B n sl l) : ∀ j (hj : j < l.length), EvOk l[j] := by
  intro j hj
  obtain ⟨a, c, e, _, hc⟩ := h
  obtain ⟨b, off, s', e, hb, h0, h1, h2, h3⟩ := hc j hj
  exact h2
/-- Events with copies for values, as events in memory. -/
theorem EHalf.evs {w wr : World} {L n g : Nat} {E E' : List EV} (h : EHalf w wr L n g E.length E E') (hl : E.length ≤ 1000000000) (hg : EvsGood w w.heap.size n E) : EvsAt wr wr.heap.size n (.slice (some ⟨g, 0, none⟩) E.length E.length) (E.map (·.1)) := by
  have hlen := h.len
  have hr := h.row
  rw [← hlen] at hr ⊢
  rw [← h.same]
  refine evs_of_row hr (by omega) (fun x hx => ?_) (Nat.le_refl _)
  obtain ⟨j, hj, rfl⟩ := List.getElem_of_mem hx
  have e : E'[j].1 = (E[j]'(by omega)).1 := by
    have := congrArg (fun z => z[j]?) h.same
    simpa [hj, show j < E.length by omega] using this
  have hgj := hg (E[j]'(by omega)) (List.getElem_mem _)
  exact ⟨(h.new j hj (by omega)).in.at (fun b hb => hb.2.1), by rw [e]; exact hgj.2⟩
end Go.Proofs.YtnmkggoampkekaaGreatDoor
