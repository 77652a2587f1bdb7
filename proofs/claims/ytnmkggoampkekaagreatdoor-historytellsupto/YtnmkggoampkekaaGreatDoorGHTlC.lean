/- Preds of the program. -/
import Derived.Test.YtnmkggoampkekaaGreatDoorGHTlA
import Derived.Test.YtnmkggoampkekaaGreatDoorGBHs
import Derived.Test.YtnmkggoampkekaaGreatDoorGHChMG
import Derived.Test.YtnmkggoampkekaaGreatDoorGHTlB
import Derived.Test.YtnmkggoampkekaaGreatDoorGHChG
namespace Go.Proofs.YtnmkggoampkekaaGreatDoor
open Go.RowKit Go.Maps

/-- Words in memory, in a block of their own. -/
def WAt (w : World) (I : Nat → Prop) (sl : Value) (ws : List Nat) : Prop := ∃ b c, sl = .slice (some ⟨b, 0, none⟩) ws.length c ∧ I b ∧ ∀ j (h : j < ws.length), w.cell? ⟨b, j, none⟩ = some (.int .u64 (ws[j] : Int))
theorem WAt.keep {w w' : World} {I I' : Nat → Prop} {sl : Value} {ws : List Nat} (h : WAt w I sl ws) (hk : ∀ b, I b → w'.heap[b]? = w.heap[b]?) (hI : ∀ b, I b → I' b) : WAt w' I' sl ws := by
  obtain ⟨b, c, e, hb, hc⟩ := h
  exact ⟨b, c, e, hI b hb, fun j hj => (World.cell?_of_block (hk b hb)).trans (hc j hj)⟩
theorem WAt.row {w : World} {L g cap : Nat} {I : Nat → Prop} {ws : List Nat} (h : w.ownsRow L 65 1 (.slice (some ⟨g, 0, none⟩) ws.length cap) ws.length (u64s ws)) (hI : I g) : WAt w I (.slice (some ⟨g, 0, none⟩) ws.length cap) ws :=
  ⟨g, cap, rfl, hI, fun j hj => (h.cellAt j (by omega)).trans (u64s_get ws j hj)⟩
/-- Rows of words in the making: I are the blocks in which the words lie. -/
structure PrAt (w : World) (h0 : Nat) (I : Nat → Prop) (v : Value) (rs : List (Value × List Nat)) : Prop where
  row : w.ownsRow h0 35 1 v rs.length (rs.map (·.1))
  its : ∀ x ∈ rs, WAt w I x.1 x.2
  no : ∀ b, I b → b < w.heap.size ∧ v.ownBlock ≠ some b
theorem PrAt.keep {w w' : World} {h0 : Nat} {I M : Nat → Prop} {v : Value} {rs : List (Value × List Nat)} (h : PrAt w h0 I v rs) (kp : Keeps M w w') (hI : ∀ b, I b → ¬ M b) (hv : ∀ k, v.ownBlock = some k → ¬ M k) : PrAt w' h0 I v rs :=
  ⟨kp.row h.row hv, fun x hx => (h.its x hx).keep (fun b hb => kp.block b (h.no b hb).1 (hI b hb)) (fun _ h => h), fun b hb => ⟨Nat.lt_of_lt_of_le (h.no b hb).1 kp.size, (h.no b hb).2⟩⟩
theorem PrAt.below {w w' : World} {h0 : Nat} {I : Nat → Prop} {v : Value} {rs : List (Value × List Nat)} (h : PrAt w h0 I v rs) (hb : Below w.heap.size w w') : PrAt w' h0 I v rs :=
  h.keep (Keeps.below (M := fun _ => False) hb) (fun _ _ h => h) (fun _ _ h => h)
theorem PrAt.push {w W : World} {h0 : Nat} {I J : Nat → Prop} {v v' : Value} {rs : List (Value × List Nat)} (h : PrAt w h0 I v rs) (x : Value × List Nat) (hx : WAt w J x.1 x.2) (hJ : ∀ b, J b → b < w.heap.size ∧ v.ownBlock ≠ some b)
    (hr : W.ownsRow h0 35 1 v' (rs.length + 1) (rs.map (·.1) ++ [x.1])) (gr : w.grownBy W v.ownBlock) (lie : v'.ownBlock = v.ownBlock ∨ v'.ownBlock = some w.heap.size) : PrAt W h0 (fun b => I b ∨ J b) v' (rs ++ [x]) := by
  have kA : Keeps (fun y => v.ownBlock = some y) w W := Keeps.grown gr (fun r e => e)
  have hno : ∀ b, (I b ∨ J b) → b < w.heap.size ∧ v.ownBlock ≠ some b := fun b hb => hb.elim (h.no b) (hJ b)
  refine ⟨by rw [List.length_append, List.length_singleton, List.map_append]; exact hr, fun y hy => ?_, fun b hb => ⟨Nat.lt_of_lt_of_le (hno b hb).1 kA.size, fun e => ?_⟩⟩
  · rcases List.mem_append.1 hy with hy | hy
    · exact (h.its y hy).keep (fun b hb => kA.block b (hno b (.inl hb)).1 (hno b (.inl hb)).2) (fun _ hb => .inl hb)
    · simp at hy
      subst hy
      exact hx.keep (fun b hb => kA.block b (hno b (.inr hb)).1 (hno b (.inr hb)).2) (fun _ hb => .inr hb)
  · rcases lie with l | l
    · exact (hno b hb).2 (l.symm.trans e)
    · have e2 : w.heap.size = b := Option.some.inj (l.symm.trans e)
      have := (hno b hb).1
      omega
theorem SetAt.keep {w w' : World} {M : Nat → Prop} {sb g cap n : Nat} {ws : List Nat} (h : SetAt w sb g cap n ws) (kp : Keeps M w w') (hs : ¬ M sb) (hg : ¬ M g) : SetAt w' sb g cap n ws :=
  ⟨(kp.block sb h.lt hs).trans h.st, kp.row h.row (fun k e => by cases e; exact hg), h.len, h.room, h.fit⟩
theorem AgreeM.few {P O : List (List UInt8)} {cs : List HV} {l : List Evn} (h : AgreeM P O cs l) : cs.length ≤ 4096 := by
  have hl : cs.length = (gAt l l.length).calls.length := by have := congrArg List.length h.cl; simpa using this
  rcases Nat.eq_zero_or_pos l.length with h0 | h0
  · rw [hl, h0]
    simp [gAt]
  · have := h.small (l.length - 1) (by omega)
    rw [Nat.sub_add_cancel h0] at this
    unfold largeG at this
    simp at this
    omega
theorem infoRow : (Tryz.prog.info? 35).map (fun i => (i.zero, i.size, i.bytes)) = some (some (.slice none 0 0), 1, 24) := by kernel_rfl
/-- The rows that are told of the first b operations. -/
def RowsTo (cs : List HV) (rs : List (Value × List Nat)) : Prop := ∀ j (h : j < rs.length) (h' : j < cs.length), Rel rs[j].2 (bsAt cs cs[j].1.inv)
/-- What Preds answers of operations that are right. -/
def PredsR (w : World) (cs : List HV) (v : Value) : Prop := ∃ rs I h0, PrAt w h0 I v rs ∧ rs.length = cs.length ∧ RowsTo cs rs
theorem RowsTo.snoc {cs : List HV} {rs : List (Value × List Nat)} (h : RowsTo cs rs) (x : Value × List Nat) (hx : ∀ h' : rs.length < cs.length, Rel x.2 (bsAt cs cs[rs.length].1.inv)) : RowsTo cs (rs ++ [x]) := fun j hj hj' => by
  by_cases e : j < rs.length
  · rw [List.getElem_append_left e]
    exact h j e hj'
  · have e' : j = rs.length := by simp at hj; omega
    subst e'
    simp only [List.getElem_concat_length]
    exact hx hj'
set_option maxRecDepth 100000 in
set_option maxHeartbeats 16000000 in
theorem predsY_k (w : World) (n : Nat) (v0 v1 v2 : Value) (P O : List (List UInt8)) (cs : List HV) (hT : TabL w) (h : HPast w w.heap.size (n + 1) v0 v1 v2 P O cs) (hcs : cs.length ≤ 100000000) (E : List EV) (hlm : laidM P O cs = some E) (hag : AgreeM P O cs (E.map (·.1))) :
    Calls Tryz.prog 4 #[.agg #[v0, v1, v2]] w fun e w' => (∃ v, e = .returned (.tuple #[v, .int .i64 0]) ∧ PredsR w' cs v) ∧ Below w.heap.size w w' := by
  obtain ⟨i0, hi, hz0, hz1, hz2⟩ := info_partsV infoRow
  have hfew := hag.few
  have hF := (told_made hlm hag).plcs
  obtain ⟨a0, c0, rfl, hl0⟩ := h.pr.len
  obtain ⟨a1, c1, rfl, hl1⟩ := h.ob.len
  obtain ⟨a2, c2, rfl, hl2⟩ := h.cl.len
  obtain ⟨W, hW⟩ : ∃ W, w.alloc (.cells #[.slice a0 P.length c0, .slice a1 O.length c1, .slice a2 cs.length c2] 25) = W := ⟨_, rfl⟩
  have bW : Below w.heap.size w W := by rw [← hW]; exact alloc_v (Below.refl _ _) _
  have zW : W.heap.size = w.heap.size + 1 := by rw [← hW]; simp
  have e1 : W.heap[w.heap.size]? = some (.cells #[.slice a0 P.length c0, .slice a1 O.length c1, .slice a2 cs.length c2] 25 (0, 0)) := by rw [← hW]; exact World.alloc_heap_new w _
  have hPW := (h.below bW).up bW.size
  have HLD := hide (told_k W n _ _ _ P O cs (hT.below bW) hPW hcs)
  have HG := hide (laidN_good hPW _ _ hlm)
  have hEl : E.length = placesM cs := laidN_len _ _ hlm
  have hEb : E.length ≤ 200000000 := by have := placesN_le cs cs.length; unfold placesM at hEl; omega
  have HBL := hide (fun (U : World) (b : Below W.heap.size W U) => (b.block w.heap.size (by omega)).trans e1)
  have HEN := hide (fun (U : World) (b : Below w.heap.size w U) => endings_k U n (.slice a0 P.length c0) (.slice a1 O.length c1) (.slice a2 cs.length c2) P O cs ((h.below b).up b.size) hcs E.length hEb (fun j hj => by
    rcases hF.res j hj with a | ⟨r, a, _, hr, _⟩
    · exact .inl a
    · exact .inr ⟨r, a, by simpa using hr⟩))
  have x0 := cells_at e1 0 _ rfl
  have x1 := cells_at e1 1 _ rfl
  have x2 := cells_at e1 2 _ rfl
  have HLM := hide hlm
  have HAG := hide hag
  have FF := hide hF
  have ZW := hide zW
  clear h hT e1 hPW hEl hlm hag hF zW
  go_enter Tryz.func4, Tryz.ntmps4
  go_upto_region 4 with (go_at_call 14; refine HLD.out.mono ?_; clear HLD; rintro r w1 ⟨⟨v, rfl, hres⟩, b1⟩; have B1 := hide b1; have hr2 : ∃ g L, v = .tuple #[.slice (some ⟨g, 0, none⟩) E.length E.length, .int .i64 0] ∧ w1.ownsRow L 61 12 (.slice (some ⟨g, 0, none⟩) E.length E.length) E.length (erow E) := (by rcases hres with ⟨_, hn⟩ | ⟨E', g, L, h1, _, h3, _, h5⟩; exact absurd HAG.out (hn E HLM.out); have e := HLM.out.symm.trans h1; cases e; exact ⟨g, L, h3, h5⟩); obtain ⟨g, L, rfl, hrow⟩ := hr2; have HROW := hide hrow; clear b1 hrow hres)
  clear x0 x1 x2
  have f1 := HBL.out _ B1.out
  have x0 := cells_at f1 0 _ rfl
  have x1 := cells_at f1 1 _ rfl
  have x2 := cells_at f1 2 _ rfl
  have bw1 := trans_v bW B1.out
  have HE1 := hide (HEN.out w1 bw1)
  clear f1
  go_upto_region 5 with (go_at_call 15; refine HE1.out.mono ?_; clear HE1; rintro r w2 ⟨⟨ge, rfl, hend⟩, b2⟩; have B2 := hide b2; have HEND := hide hend; clear b2 hend)
  clear x0 x1 x2
  have b12 := trans_v B1.out B2.out
  have f2 := HBL.out _ b12
  have x2 := cells_at f2 2 _ rfl
  have HNW := hide (new_k cs.length hfew w2)
  clear f2
  go_wp2_with (go_at_call 16; refine HNW.out.mono ?_; clear HNW; rintro r w4 ⟨rfl, hset, b4, z4⟩; have HSET := hide hset; have B4 := hide b4; have Z4 := hide z4; clear hset b4 z4)
  clear x2
  have hiv := evs_of_row HROW.out (by omega) (HG.out.below B1.out) B1.out.size
  have HI := hide hiv
  have hlm : (E.map (·.1)).length = E.length := List.length_map _
  have glt : g < w1.heap.size := (HROW.out.lt g rfl).2
  have gel := HEND.out.lt ge rfl
  clear hiv
  generalize hle : E.map (·.1) = l at *
  clear hle
  have hlb : l.length ≤ 200000000 := by omega
  have s2 := B2.out.size
  have s1 := B1.out.size
  have bw2 := trans_v bw1 B2.out
  have hzw := bw2.size
  have HK0 := hide (fun (U : World) (kp : Keeps (fun y => y = w2.heap.size) w4 U) => (show Below w.heap.size w U from ((bw2.trans (B4.out.mono hzw)).trans (kp.toBelow (by have := Z4.out; omega) (fun x hx => by omega)))))
  have HK1 := hide (fun (U : World) (kp : Keeps (fun y => y = w2.heap.size) w4 U) => (show Below w1.heap.size w1 U from ((B2.out.trans (B4.out.mono s2)).trans (kp.toBelow (by have := Z4.out; omega) (fun x hx => by omega)))))
  have hend4 := (Keeps.below (M := fun _ => False) B4.out).row HEND.out (fun _ _ h => h)
  have HEN4 := hide hend4
  have hr0 : Rel (List.replicate ((cs.length + 63) / 64) 0) (bsAt cs 0) := by
    rw [bsAt_zero FF.out]
    exact Rel.zero _
  have HR0 := hide hr0
  have FI : Hid (∀ j (hj : j < cs.length), (0 : Int) ≤ cs[j].1.inv) := hide (fun j hj => by
    obtain ⟨i, e, _⟩ := FF.out.inv j hj
    omega)
  clear hr0 hend4 bw2 bw1 b12
  go_loopw [9, 10, 11, 33] (fun v _ _ i wr => ∃ (k : Nat) (I : Nat → Prop) (rs : List (Value × List Nat)) (ws : List Nat), k ≤ l.length ∧ i = .int .i64 k ∧ rs.length ≤ cs.length ∧ (∀ j (hj : j < cs.length), j < rs.length → cs[j].1.inv < (k : Int)) ∧ (∀ j (hj : j < cs.length), rs.length ≤ j → (k : Int) ≤ cs[j].1.inv) ∧ RowsTo cs rs ∧ PrAt wr w4.heap.size I v rs ∧ (∀ b, I b → w4.heap.size ≤ b) ∧ SetAt wr (w2.heap.size + 1) w2.heap.size ((cs.length + 63) / 64) cs.length ws ∧ Rel ws (bsAt cs (k : Int)) ∧ Keeps (fun y => y = w2.heap.size) w4 wr) (fun _ _ _ i _ => l.length - (intOf i).toNat)
  case atStart => exact ⟨0, fun _ => False, [], _, Nat.zero_le _, rfl, Nat.zero_le _, fun j _ hj => by simp at hj, fun j hj _ => FI.out j hj, fun j hj => by simp at hj, ⟨World.ownsRow_nil _ _ _ _, fun x hx => by simp at hx, fun _ h => h.elim⟩, fun _ h => h.elim, HSET.out, HR0.out, Keeps.refl _ _⟩
  case round =>
    clear HR0
    obtain ⟨k, I, rs, ws, hk, rfl, hrl, hlo, hhi, hrows, hpr, hI, hset, hrel, kp⟩ := hrel
    by_cases hlt : k < l.length
    · obtain ⟨b3, o3, s3, hs3, g3, p0, p1, p2, p3, p4, p5, p6, p7, p8, p9, p10, p11, pi, pk, pz⟩ := (HI.out.below (HK1.out wr kp)).item k hlt
      cases hs3
      simp only [Nat.zero_add] at p0 p1 p2 p3 p4 p5 p6 p7 p8 p9 p10 p11
      have hz4 := kp.size
      have l3 : g < wr.heap.size := by have := Z4.out; omega
      have k0 : (0 : Int) ≤ (k : Int) := by omega
      have k1 : (k : Int) < (l.length : Int) := by omega
      have k2 : (k : Int) < (E.length : Int) := by omega
      obtain ⟨sa, sc, rfl, _⟩ := pi.len
      have HP := hide (And.intro hlo (And.intro hhi (And.intro hrows (And.intro hpr (And.intro hI (And.intro hset (And.intro hrel kp)))))))
      have hall := FF.out.all k hlt
      by_cases hkd : l[k].kind = 1
      · have HBI := hide (bsAt_inv FF.out hlt hkd)
        have hkb : (l[k].kind == 1) = true := by simpa using hkd
        obtain ⟨jb, hjb, hie⟩ : ∃ j, ∃ hj : j < cs.length, cs[j].1.inv = (k : Int) := by
          obtain ⟨j, hj, e⟩ := hall
          refine ⟨j, hj, e.resolve_right (fun e' => ?_)⟩
          rcases FF.out.res j hj with a | ⟨r, a, _, hr, b⟩
          · omega
          · have : r = k := by omega
            subst this
            omega
        have hjr : jb = rs.length := by
          have h1 : ¬ jb < rs.length := fun h => by have := hlo jb hjb h; omega
          by_cases h2 : jb = rs.length
          · exact h2
          · have h3 : rs.length < cs.length := by omega
            have h4 := FF.out.rise rs.length jb h3 hjb (by omega)
            have h5 := hhi rs.length h3 (Nat.le_refl _)
            omega
        subst hjr
        have HIE := hide hie
        clear hlo hhi hrows hpr hI hset hrel kp hall pi pk pz g3 hie hkd
        generalize hlk : l[k] = x at *
        obtain ⟨V, hV⟩ : ∃ V, wr.alloc (.cells (evCells x (.slice sa x.val.items.length sc)) 61) = V := ⟨_, rfl⟩
        have bV : Below wr.heap.size wr V := by rw [← hV]; exact alloc_v (Below.refl _ _) _
        have eV : V.heap[wr.heap.size]? = some (.cells (evCells x (.slice sa x.val.items.length sc)) 61 (0, 0)) := by rw [← hV]; exact World.alloc_heap_new wr _
        have t0 := cells_at eV 0 _ rfl
        have HVB := hide bV
        have zV := bV.size
        have HSV := hide (HP.out.2.2.2.2.2.1.keep (Keeps.below (M := fun _ => False) bV) (fun h => h) (fun h => h))
        have HWD := hide (words_k HSV.out)
        have hvl : ∀ q, u9.ownBlock = some q → w4.heap.size ≤ q ∧ q < wr.heap.size := fun q e => HP.out.2.2.2.1.row.lt q e
        have HVL := hide hvl
        clear eV bV hlk hvl
        go_wp2_with (first
          | (go_at_call 17; refine HWD.out.mono ?_; clear HWD; rintro r w5 ⟨g', cap', rfl, hrw, b5⟩; have HRW := hide hrw; have B5 := hide b5; have HR5 := hide (HP.out.2.2.2.1.below (trans_v HVB.out b5)); have sz5 := b5.size; have gl5 := hrw.lt g' rfl; clear hrw b5)
          | (at_builtin; refine wpList_append_own_at _ rfl _ _ 26 rfl w4.heap.size 35 i0 (.slice none 0 0) 1 24 Tryz.underlying26 hi hz0 hz1 hz2 rfl (by decide) _ _ _ rfl (HR5.out.row.alloc _) ⟨w5.heap.size, 0, none⟩ 1 1 [.slice (some ⟨g', 0, none⟩) ws.length cap'] rfl rfl (cell_one_new _ _ _) (by simp [Value.oneCell']) (by unfold maxLen; omega) (by omega) (by simp; omega) ?_; intro v' w6 hown hgrow _ hlie; have OWN := hide (And.intro hown (And.intro hgrow hlie)); clear hown hgrow hlie))
        obtain ⟨hlo, hhi, hrows, hpr, hI, hset, hrel, kp⟩ := HP.out
        obtain ⟨hown, hgrow, hlie⟩ := OWN.out
        obtain ⟨w7, hw7⟩ : ∃ w7, w5.alloc (.cells #[.slice (some ⟨g', 0, none⟩) ws.length cap'] 35) = w7 := ⟨_, rfl⟩
        have b7 : Below w5.heap.size w5 w7 := by rw [← hw7]; exact alloc_v (Below.refl _ _) _
        have hrw7 : w7.ownsRow V.heap.size 65 1 (.slice (some ⟨g', 0, none⟩) ws.length cap') ws.length (u64s ws) := by rw [← hw7]; exact HRW.out.alloc _
        rw [hw7] at hgrow hlie
        have z7 := b7.size
        have z4 := Z4.out
        have hp7 := HR5.out.below b7
        have hpush := hp7.push (J := fun b => b = g') (.slice (some ⟨g', 0, none⟩) ws.length cap', ws) (WAt.row hrw7 rfl) (fun b hb => by
          subst hb
          exact ⟨by omega, fun e => by have := HVL.out b e; omega⟩) hown hgrow hlie
        have kb : Keeps (fun y => u9.ownBlock = some y) wr w7 := Keeps.below (trans_v (trans_v HVB.out B5.out) b7)
        have kA : Keeps (fun y => u9.ownBlock = some y) wr w6 := kb.trans (Keeps.grown hgrow (fun r e => e)) (fun _ _ h => h)
        have R1 := hide hpush
        have R2 := hide (hset.keep kA (fun e => by have := HVL.out _ e; omega) (fun e => by have := HVL.out _ e; omega))
        have R3 := hide (kp.trans kA (fun x hx e => by have := HVL.out x e; omega))
        have hrel2 := hrel
        rw [← HBI.out] at hrel2
        have R4 := hide hrel2
        have R5 := hide (hrows.snoc (.slice (some ⟨g', 0, none⟩) ws.length cap', ws) (fun h' => by rw [HIE.out]; exact hrel))
        have R6 : Hid (∀ b, (I b ∨ b = g') → w4.heap.size ≤ b) := hide (fun b hb => by
          rcases hb with hb | rfl
          · exact hI b hb
          · omega)
        have RP := hide (And.intro hlo hhi)
        have RL : Hid ((rs ++ [((.slice (some ⟨g', 0, none⟩) ws.length cap' : Value), ws)]).length = rs.length + 1) := hide (by simp)
        clear hlo hhi hrows hpr hI hset hrel kp hrel2 kA kb hpush hp7 hown hgrow hlie hrw7 b7 hw7
        go_roundw
        case rel => exact ⟨k + 1, _, _, ws, by omega, by go_num, by rw [RL.out]; omega, fun j hj h => by
            rw [RL.out] at h
            by_cases e : j < rs.length
            · have := RP.out.1 j hj e; omega
            · have e' : j = rs.length := by omega
              subst e'
              have := HIE.out
              omega, fun j hj h => by
            rw [RL.out] at h
            have h1 := FF.out.rise rs.length j hjb hj (by omega)
            have h2 := HIE.out
            omega, R5.out, R1.out, R6.out, R2.out, R4.out, R3.out⟩
        case measure => simp [intOf]; omega
      · have hkb : (l[k].kind == 1) = false := by simpa using hkd
        obtain ⟨jr, hjr, hre⟩ : ∃ j, ∃ hj : j < cs.length, cs[j].1.res = (k : Int) := by
          obtain ⟨j, hj, e⟩ := hall
          refine ⟨j, hj, e.resolve_left (fun e' => ?_)⟩
          obtain ⟨i, a, hi, b⟩ := FF.out.inv j hj
          have : i = k := by omega
          subst this
          exact hkd b
        have HBR := hide (bsAt_res FF.out hjr hre)
        have hea := endN_at FF.out hjr hre hlt cs.length (Nat.le_refl _) hjr
        rw [hlm] at hea
        have hne : ge ≠ w2.heap.size := by omega
        have hce : wr.cell? ⟨ge, k, none⟩ = some (.int .i64 (jr : Int)) := by
          have h4 := HEN4.out.cellAt k (by omega)
          have h5 : (natsH (endN cs E.length cs.length))[k]? = some (.int .i64 (jr : Int)) := by
            unfold natsH
            rw [List.getElem?_map, hea]
            rfl
          exact (World.cell?_of_block (kp.block ge (by have := B4.out.size; omega) hne)).trans (h4.trans h5)
        have lge : ge < wr.heap.size := by have := B4.out.size; omega
        have hinv : ∀ j (hj : j < cs.length), cs[j].1.inv ≠ (k : Int) := fun j hj e' => by
          obtain ⟨i, a, hi, b⟩ := FF.out.inv j hj
          have : i = k := by omega
          subst this
          exact hkd b
        have HIV := hide hinv
        clear hlo hhi hrows hpr hI hset hrel kp hall pi pk pz g3 hea hinv hre
        generalize hlk : l[k] = x at *
        obtain ⟨V, hV⟩ : ∃ V, wr.alloc (.cells (evCells x (.slice sa x.val.items.length sc)) 61) = V := ⟨_, rfl⟩
        have bV : Below wr.heap.size wr V := by rw [← hV]; exact alloc_v (Below.refl _ _) _
        have eV : V.heap[wr.heap.size]? = some (.cells (evCells x (.slice sa x.val.items.length sc)) 61 (0, 0)) := by rw [← hV]; exact World.alloc_heap_new wr _
        have t0 := cells_at eV 0 _ rfl
        have HVB := hide bV
        have zV := bV.size
        have HSV := hide (HP.out.2.2.2.2.2.1.keep (Keeps.below (M := fun _ => False) bV) (fun h => h) (fun h => h))
        have HPT := hide (put_k HSV.out jr hjr)
        have hcv : V.cell? ⟨ge, k, none⟩ = some (.int .i64 (jr : Int)) := (World.cell?_of_block (bV.block ge lge)).trans hce
        have k3 : (k : Int) < (E.length : Int) := by omega
        clear eV bV hlk hce
        go_wp2_with (go_at_call 18; refine HPT.out.mono ?_; clear HPT; rintro r w5 ⟨rfl, hs5, g5⟩; have HS5 := hide hs5; have G5 := hide g5; clear hs5 g5)
        obtain ⟨hlo, hhi, hrows, hpr, hI, hset, hrel, kp⟩ := HP.out
        have kg : Keeps (fun y => y = w2.heap.size) V w5 := Keeps.grown G5.out (fun r e => (Option.some.inj e).symm)
        have kv : Keeps (fun y => y = w2.heap.size) wr w5 := (Keeps.below HVB.out).trans kg (fun _ _ h => h)
        have z4 := Z4.out
        have R1 := hide (hpr.keep kv (fun b hb e => by have := hI b hb; omega) (fun q e e' => by have := (hpr.row.lt q e).1; omega))
        have hput := hrel.put jr (by rw [bsAt_len]; exact hjr)
        rw [← HBR.out] at hput
        have R2 := hide hput
        have R3 := hide (kp.trans kv (fun _ _ h => h))
        have RP := hide (And.intro hlo (And.intro hhi (And.intro hrows hI)))
        clear hlo hhi hrows hpr hI hset hrel kp kg kv hput z4
        go_roundw
        case rel => exact ⟨k + 1, I, rs, _, by omega, by go_num, hrl, fun j hj h => by have := RP.out.1 j hj h; omega, fun j hj h => by have := RP.out.2.1 j hj h; have := HIV.out j hj; omega, RP.out.2.2.1, R1.out, RP.out.2.2.2, HS5.out, R2.out, R3.out⟩
        case measure => simp [intOf]; omega
    · have he : k = l.length := by omega
      subst he
      have k2 : ¬ ((l.length : Int) < (E.length : Int)) := by omega
      have hrn : rs.length = cs.length := by
        by_cases h : rs.length < cs.length
        · have h1 := hhi rs.length h (Nat.le_refl _)
          obtain ⟨i, e, hi, _⟩ := FF.out.inv rs.length h
          omega
        · omega
      have hw24 : w.heap.size ≤ w4.heap.size := by have := Z4.out; omega
      have RX := hide (show PredsR wr cs _ from ⟨rs, I, w.heap.size, ⟨row_downP hpr.row hw24, hpr.its, hpr.no⟩, hrn, hrows⟩)
      have RB := hide (HK0.out wr kp)
      clear hlo hhi hrows hpr hI hset hrel kp hrn
      go_wp2
      go_ret2
      exact ⟨⟨_, rfl, RX.out⟩, RB.out⟩
end Go.Proofs.YtnmkggoampkekaaGreatDoor

/- Preds of both where they refuse; the reference's Preds; the law's words. -/
namespace Go.Proofs.YtnmkggoampkekaaGreatDoor
open Go.RowKit Go.Maps

set_option maxRecDepth 100000 in
set_option maxHeartbeats 4000000 in
theorem predsN_k (w : World) (n : Nat) (v0 v1 v2 : Value) (P O : List (List UInt8)) (cs : List HV) (hT : TabL w) (h : HPast w w.heap.size (n + 1) v0 v1 v2 P O cs) (hcs : cs.length ≤ 100000000) (hno : ¬ ToldOk P O cs) :
    Calls Tryz.prog 4 #[.agg #[v0, v1, v2]] w fun e w' => e = .returned (.tuple #[.slice none 0 0, .int .i64 2]) ∧ Below w.heap.size w w' := by
  obtain ⟨a0, c0, rfl, hl0⟩ := h.pr.len
  obtain ⟨a1, c1, rfl, hl1⟩ := h.ob.len
  obtain ⟨a2, c2, rfl, hl2⟩ := h.cl.len
  obtain ⟨W, hW⟩ : ∃ W, w.alloc (.cells #[.slice a0 P.length c0, .slice a1 O.length c1, .slice a2 cs.length c2] 25) = W := ⟨_, rfl⟩
  have bW : Below w.heap.size w W := by rw [← hW]; exact alloc_v (Below.refl _ _) _
  have e1 : W.heap[w.heap.size]? = some (.cells #[.slice a0 P.length c0, .slice a1 O.length c1, .slice a2 cs.length c2] 25 (0, 0)) := by rw [← hW]; exact World.alloc_heap_new w _
  have HLD : Hid (Calls Tryz.prog 14 #[.agg #[.slice a0 P.length c0, .slice a1 O.length c1, .slice a2 cs.length c2]] W fun e w1 => e = .returned (.tuple #[.slice none 0 0, .int .i64 2]) ∧ Below w.heap.size w w1) := by
    refine hide ((told_k W n _ _ _ P O cs (hT.below bW) ((h.below bW).up bW.size) hcs).mono ?_)
    rintro r w1 ⟨⟨v, rfl, hres⟩, b1⟩
    rcases hres with ⟨rfl, _⟩ | ⟨E1, g, L, hl1', hag, _⟩
    · exact ⟨rfl, trans_v bW b1⟩
    · exact absurd ⟨E1, hl1', hag⟩ hno
  have x0 := cells_at e1 0 _ rfl
  have x1 := cells_at e1 1 _ rfl
  have x2 := cells_at e1 2 _ rfl
  clear h hT e1 hno
  go_enter Tryz.func4, Tryz.ntmps4
  go_wp2_with (go_at_call 14; refine HLD.out.mono ?_; clear HLD; rintro r w1 ⟨rfl, b1⟩; have HB := hide b1; clear b1)
  go_ret2
  exact ⟨rfl, HB.out⟩
set_option maxRecDepth 100000 in
set_option maxHeartbeats 4000000 in
theorem refPredsN_k (w : World) (n : Nat) (v0 v1 v2 : Value) (P O : List (List UInt8)) (cs : List HV) (h : HPast w w.heap.size (n + 1) v0 v1 v2 P O cs) (hck : ∀ U, Below w.heap.size w U → Calls Tryz.prog 19 #[.agg #[v0, v1, v2]] U fun e w' => e = .returned (.int .i64 2) ∧ Below U.heap.size U w') :
    Calls Tryz.prog 5 #[.agg #[v0, v1, v2]] w fun e w' => e = .returned (.tuple #[.slice none 0 0, .int .i64 2]) ∧ Below w.heap.size w w' := by
  obtain ⟨a0, c0, rfl, hl0⟩ := h.pr.len
  obtain ⟨a1, c1, rfl, hl1⟩ := h.ob.len
  obtain ⟨a2, c2, rfl, hl2⟩ := h.cl.len
  obtain ⟨W, hW⟩ : ∃ W, w.alloc (.cells #[.slice a0 P.length c0, .slice a1 O.length c1, .slice a2 cs.length c2] 25) = W := ⟨_, rfl⟩
  have bW : Below w.heap.size w W := by rw [← hW]; exact alloc_v (Below.refl _ _) _
  have e1 : W.heap[w.heap.size]? = some (.cells #[.slice a0 P.length c0, .slice a1 O.length c1, .slice a2 cs.length c2] 25 (0, 0)) := by rw [← hW]; exact World.alloc_heap_new w _
  have HE := hide (hck W bW)
  have x0 := cells_at e1 0 _ rfl
  have x1 := cells_at e1 1 _ rfl
  have x2 := cells_at e1 2 _ rfl
  clear h hck e1
  go_enter Tryz.func5, Tryz.ntmps5
  go_wp2_with (go_at_call 19; refine HE.out.mono ?_; clear HE; rintro r w1 ⟨rfl, b1⟩; have HB := hide (trans_v bW b1); clear b1)
  go_ret2
  exact ⟨rfl, HB.out⟩
set_option maxRecDepth 100000 in
set_option maxHeartbeats 16000000 in
theorem refPredsY_k (w : World) (n : Nat) (v0 v1 v2 : Value) (P O : List (List UInt8)) (cs : List HV) (h : HPast w w.heap.size (n + 1) v0 v1 v2 P O cs) (hfew : cs.length ≤ 4096) (hck : ∀ U, Below w.heap.size w U → Calls Tryz.prog 19 #[.agg #[v0, v1, v2]] U fun e w' => e = .returned (.int .i64 0) ∧ Below U.heap.size U w') :
    Calls Tryz.prog 5 #[.agg #[v0, v1, v2]] w fun e w' => (∃ v, e = .returned (.tuple #[v, .int .i64 0]) ∧ PredsR w' cs v) ∧ Below w.heap.size w w' := by
  obtain ⟨i0, hi, hz0, hz1, hz2⟩ := info_partsV infoWord
  obtain ⟨i1, hi1, hy0, hy1, hy2⟩ := info_partsV infoRow
  obtain ⟨N, hN⟩ : ∃ N, (cs.length + 63) / 64 = N := ⟨_, rfl⟩
  have hN1 : N ≤ 64 := by omega
  have hmk := fun w => run_make (P := Tryz.prog) w 35 65 i0 (.int .u64 0) Tryz.underlying35 hi hz0 .i64 .i64 (N : Int) (N : Int) (by omega) (by omega) (by rw [hz2]; omega) (by omega)
  rw [hz1] at hmk
  have hq1 : ((cs.length : Int) + 63) / 64 = (N : Int) := by omega
  have HZ := hide (And.intro hN hN1)
  have HMK := hide hmk
  have HQ := hide hq1
  clear hN hmk hq1
  obtain ⟨a0, c0, rfl, hl0⟩ := h.pr.len
  obtain ⟨a1, c1, rfl, hl1⟩ := h.ob.len
  obtain ⟨a2, c2, rfl, hl2⟩ := h.cl.len
  obtain ⟨W, hW⟩ : ∃ W, w.alloc (.cells #[.slice a0 P.length c0, .slice a1 O.length c1, .slice a2 cs.length c2] 25) = W := ⟨_, rfl⟩
  have bW : Below w.heap.size w W := by rw [← hW]; exact alloc_v (Below.refl _ _) _
  have zW : W.heap.size = w.heap.size + 1 := by rw [← hW]; simp
  have e1 : W.heap[w.heap.size]? = some (.cells #[.slice a0 P.length c0, .slice a1 O.length c1, .slice a2 cs.length c2] 25 (0, 0)) := by rw [← hW]; exact World.alloc_heap_new w _
  have HC := hide (hck W bW)
  have HBF := hide (fun (U : World) (b : Below w.heap.size w U) (i j : Nat) => refBefore_k U (n + 1) _ _ _ P O cs ((h.below b).up b.size) (i : Int) (j : Int))
  have HBL := hide (fun (U : World) (b : Below W.heap.size W U) => (b.block w.heap.size (by omega)).trans e1)
  have x0 := cells_at e1 0 _ rfl
  have x1 := cells_at e1 1 _ rfl
  have x2 := cells_at e1 2 _ rfl
  clear h hck e1 zW hN1
  go_enter Tryz.func5, Tryz.ntmps5
  go_wp2_with (go_at_call 19; refine HC.out.mono ?_; clear HC; rintro r w1 ⟨rfl, b1⟩; have B1 := hide b1; have y2 := cells_at (HBL.out _ b1) 2 _ rfl; clear b1)
  clear x0 x1 x2 y2
  go_loopw [5, 6] (fun o i wr => ∃ (b : Nat) (I : Nat → Prop) (rs : List (Value × List Nat)), b ≤ cs.length ∧ i = .int .i64 b ∧ Hid (rs.length = b) ∧ RowsTo cs rs ∧ PrAt wr W.heap.size I o rs ∧ Below W.heap.size W wr) (fun _ i _ => cs.length - (intOf i).toNat)
  case atStart => exact ⟨0, fun _ => False, [], Nat.zero_le _, rfl, hide rfl, fun j hj => by simp at hj, ⟨World.ownsRow_nil _ _ _ _, fun x hx => by simp at hx, fun _ h => h.elim⟩, B1.out⟩
  case round =>
    clear B1
    obtain ⟨b, I, rs, hb, rfl, HRL, hrows, hpr, hbel⟩ := hrel
    by_cases hlt : b < cs.length
    · obtain ⟨wo, hwo⟩ : ∃ wo, wo = wr := ⟨_, rfl⟩
      subst hwo
      obtain ⟨BS, hBS⟩ : ∃ BS, bsAt cs cs[b].1.inv = BS := ⟨_, rfl⟩
      have hbl : BS.length = cs.length := by rw [← hBS]; exact bsAt_len _ _
      have HBB := hide (fun a (ha : a < cs.length) => (show befAt cs a b = BS.getD a false from by rw [← hBS]; exact (bsAt_bef ha hlt).symm))
      have HP := hide (And.intro hrows (And.intro hpr (And.intro hbel (And.intro hBS hbl))))
      have b1 : (b : Int) < (cs.length : Int) := by omega
      have hq1 := HQ.out
      have hmk := HMK.out
      have HUB : Hid (∀ U, Below wo.heap.size wo U → Below W.heap.size W U) := hide (fun U hU => trans_v hbel hU)
      have hvl : ∀ q, u5.ownBlock = some q → W.heap.size ≤ q ∧ q < wo.heap.size := fun q e => hpr.row.lt q e
      have HVL := hide hvl
      have hN1 := HZ.out.2
      clear hrows hpr hbel hvl hBS hbl
      go_wp2
      clear hq1 hmk
      go_loopw [8] (fun i wr => ∃ (a : Nat) (ws : List Nat), a ≤ cs.length ∧ i = .int .i64 a ∧ Hid (ws.length = N) ∧ RelTo a ws BS ∧ wr.ownsRow wo.heap.size 65 1 (.slice (some ⟨wo.heap.size, 0, none⟩) N N) N (u64s ws) ∧ Below wo.heap.size wo wr) (fun i _ => cs.length - (intOf i).toNat)
      case atStart =>
        refine ⟨0, List.replicate N 0, Nat.zero_le _, rfl, hide (by simp), ?_, ?_, (Below.refl _ _).alloc (Nat.le_refl _) _⟩
        · have := RelTo.zero BS
          rw [HP.out.2.2.2.2, HZ.out.1] at this
          exact this
        · have h1 := World.ownsRow_lit (base := wo.heap.size) (e := 65) (size := 1) wo (madeCells #[.int .u64 0] N) N (Nat.le_refl _) (by unfold maxLen; omega) (by simp [madeCells])
          rw [made_zero] at h1
          exact h1
      case round =>
        obtain ⟨a, ws, ha, rfl, HWL, hrel2, hrow, hbel2⟩ := hrel
        have y0 := cells_at (HBL.out _ (HUB.out _ hbel2)) 0 _ rfl
        have y1 := cells_at (HBL.out _ (HUB.out _ hbel2)) 1 _ rfl
        have y2 := cells_at (HBL.out _ (HUB.out _ hbel2)) 2 _ rfl
        by_cases hla : a < cs.length
        · have a1 : (a : Int) < (cs.length : Int) := by omega
          have HF := hide (HBF.out wr (trans_v bW (HUB.out _ hbel2)) a b)
          rw [HBB.out a hla] at HF
          have hnx := hrel2.next (by rw [HP.out.2.2.2.2]; exact hla)
          have HR3 := hide (fun (U : World) (bb : Below wr.heap.size wr U) => (show U.ownsRow wo.heap.size 65 1 (.slice (some ⟨wo.heap.size, 0, none⟩) N N) N (u64s ws) from below_row hrow bb (Nat.le_refl _)))
          have HB2 := hide (fun (U : World) (bb : Below wr.heap.size wr U) => (show Below wo.heap.size wo U from trans_v hbel2 bb))
          have hkq : a / 64 < ws.length := by
            have h1 := HZ.out.1
            rw [HWL.out]
            omega
          have hqN : a / 64 < N := by rw [← HWL.out]; exact hkq
          have hfx := hrel2.fit _ (List.getElem_mem hkq)
          cases hbv : BS.getD a false with
          | false =>
            rw [hbv] at HF
            rw [hbv, if_neg (by decide)] at hnx
            have HNX := hide hnx
            clear hnx hrow hbel2 hrel2 hbv
            go_wp2_with (go_at_call 7; refine HF.out.mono ?_; clear HF; rintro r w3 ⟨rfl, b3⟩; have B3 := hide b3; clear b3)
            go_roundw
            case rel => exact ⟨a + 1, ws, by omega, by go_num, HWL, HNX.out, HR3.out _ B3.out, HB2.out _ B3.out⟩
            case measure => simp [intOf]; omega
          | true =>
            rw [hbv] at HF
            rw [hbv, if_pos rfl] at hnx
            have hcq := u64s_get ws (a / 64) hkq
            have hpw : putW ws a = ws.set (a / 64) (ws[a / 64] ||| 2 ^ (a % 64)) := by unfold putW; simp [hkq]
            have HST := hide (fun (U : World) (bb : Below wr.heap.size wr U) => (show (U.setCell ⟨wo.heap.size, a / 64, none⟩ (.int .u64 ((ws[a / 64] ||| 2 ^ (a % 64) : Nat) : Int))).ownsRow wo.heap.size 65 1 (.slice (some ⟨wo.heap.size, 0, none⟩) N N) N (u64s (putW ws a)) from by
              have hst := ((HR3.out U bb).stored (a / 64) (.int .u64 ((ws[a / 64] ||| 2 ^ (a % 64) : Nat) : Int))).1
              rw [u64s_set, ← hpw] at hst
              exact hst))
            have HSB := hide (fun (U : World) (bb : Below wr.heap.size wr U) (v : Value) => (HB2.out U bb).setCell (p := ⟨wo.heap.size, a / 64, none⟩) (Nat.le_refl _) v)
            have hor : bits .or .u64 ((ws[a / 64] : Nat) : Int) ((2 : Int) ^ (a % 64)) = ((ws[a / 64] ||| 2 ^ (a % 64) : Nat) : Int) := by
              rw [← u64_or_nat ws[a / 64] (2 ^ (a % 64)) hfx (pow_lt64 a)]
              simp
            have hp64 := pow_lt64 a
            have hsh : IntKind.u64.wrap ((2 : Int) ^ (a % 64)) = ((2 ^ (a % 64) : Nat) : Int) := by
              rw [IntKind.wrap_u64]
              have : ((2 : Int) ^ (a % 64)) = ((2 ^ (a % 64) : Nat) : Int) := by simp
              rw [this]
              generalize (2 : Nat) ^ (a % 64) = x at *
              omega
            have HWN : Hid ((putW ws a).length = N) := hide (by rw [putW_len]; exact HWL.out)
            have HNX := hide hnx
            clear hnx hrow hbel2 hrel2 hpw hbv
            generalize hxx : ws[a / 64] = x at *
            generalize hqq : a / 64 = q at *
            have hdv : ((a : Int) / 64) = (q : Int) := by omega
            have hwq : IntKind.i64.wrap (q : Int) = (q : Int) := by rw [IntKind.wrap_i64]; omega
            have p0 : (0 : Int) ≤ (q : Int) := by omega
            have p1 : (q : Int) < (N : Int) := by omega
            clear hxx hqq
            go_wp2_with (go_at_call 7; refine HF.out.mono ?_; clear HF; rintro r w3 ⟨rfl, b3⟩; have B3 := hide b3; have c3 := ((HR3.out _ b3).cellAt q (by rw [Nat.mul_one]; exact hqN)).trans hcq; have z3 := (HR3.out _ b3).frozenAt q; clear b3)
            go_roundw
            case rel => exact ⟨a + 1, putW ws a, by omega, by go_num, HWN, HNX.out, HST.out _ B3.out, HSB.out _ B3.out _⟩
            case measure => simp [intOf]; omega
        · have he : a = cs.length := by omega
          subst he
          have hrd := hrel2
          rw [← HP.out.2.2.2.2] at hrd
          have HRD := hide hrd.done
          have HPW := hide (HP.out.2.1.below hbel2)
          have HROW := hide hrow
          have sz := hbel2.size
          have szW := (HUB.out _ (Below.refl _ _)).size
          have HB2 := hide hbel2
          have hrl2 := HRL.out
          clear hrel2 hrow hbel2 hrd y0 y1 y2
          go_wp2_with (at_builtin; refine wpList_append_own_at _ rfl _ _ 26 rfl W.heap.size 35 i1 (.slice none 0 0) 1 24 Tryz.underlying26 hi1 hy0 hy1 hy2 rfl (by decide) _ _ _ rfl (HPW.out.row.alloc _) ⟨wr.heap.size, 0, none⟩ 1 1 [.slice (some ⟨wo.heap.size, 0, none⟩) N N] rfl rfl (cell_one_new _ _ _) (by simp [Value.oneCell']) (by unfold maxLen; omega) (by omega) (by simp; omega) ?_; intro v' w6 hown hgrow _ hlie; have OWN := hide (And.intro hown (And.intro hgrow hlie)); clear hown hgrow hlie)
          obtain ⟨hown, hgrow, hlie⟩ := OWN.out
          obtain ⟨w7, hw7⟩ : ∃ w7, wr.alloc (.cells #[.slice (some ⟨wo.heap.size, 0, none⟩) N N] 35) = w7 := ⟨_, rfl⟩
          have b7 : Below wr.heap.size wr w7 := by rw [← hw7]; exact alloc_v (Below.refl _ _) _
          have hrw7 : w7.ownsRow wo.heap.size 65 1 (.slice (some ⟨wo.heap.size, 0, none⟩) N N) N (u64s ws) := below_row HROW.out b7 (Nat.le_refl _)
          rw [hw7] at hgrow hlie
          have z7 := b7.size
          have hp7 := HPW.out.below b7
          have hpush := hp7.push (J := fun q => q = wo.heap.size) (.slice (some ⟨wo.heap.size, 0, none⟩) N N, ws) ⟨wo.heap.size, N, by rw [HWL.out], rfl, fun j hj => (hrw7.cellAt j (by rw [Nat.mul_one, ← HWL.out]; exact hj)).trans (u64s_get ws j hj)⟩ (fun q hq => by
            subst hq
            exact ⟨(hrw7.lt _ rfl).2, fun e => by have := HVL.out _ e; omega⟩) hown hgrow hlie
          have R1 := hide hpush
          have R2 : Hid (Below W.heap.size W w6) := hide ((trans_v (HUB.out _ HB2.out) b7).grown hgrow (by have := (HUB.out _ HB2.out).size; omega) (fun r e => (HVL.out r e).1))
          have R3 := hide (HP.out.1.snoc (.slice (some ⟨wo.heap.size, 0, none⟩) N N, ws) (fun h' => by
            have e := HRL.out
            subst e
            rw [HP.out.2.2.2.1]
            exact HRD.out))
          have R4 : Hid ((rs ++ [((.slice (some ⟨wo.heap.size, 0, none⟩) N N : Value), ws)]).length = b + 1) := hide (by simp [HRL.out])
          clear hown hgrow hlie hpush hp7 hrw7 b7 hw7 hrl2
          go_roundw
          case rel => exact ⟨b + 1, _, _, by omega, by go_num, R4, R3.out, R1.out, R2.out⟩
          case measure => simp [intOf]; omega
    · have he : b = cs.length := by omega
      subst he
      have RX := hide (show PredsR wr cs _ from ⟨rs, I, W.heap.size, hpr, HRL.out, hrows⟩)
      have RB := hide (trans_v bW hbel)
      clear hrows hpr hbel HRL
      go_wp2
      go_ret2
      exact ⟨⟨_, rfl, RX.out⟩, RB.out⟩
set_option maxRecDepth 100000 in
/-- The law's words of the same words. -/
theorem words7_yes (w : World) (I J : Nat → Prop) (sa sb : Value) (ws : List Nat) (ha : WAt w I sa ws) (hb : WAt w J sb ws) (hl : ws.length ≤ 1000000000) (hI : ∀ b, I b → b < w.heap.size) (hJ : ∀ b, J b → b < w.heap.size) :
    Calls Tryz.prog 9 #[sa, sb] w fun e w' => e = .returned (.bool true) ∧ Below w.heap.size w w' := by
  obtain ⟨b1, c1, rfl, i1, h1⟩ := ha
  obtain ⟨b2, c2, rfl, i2, h2⟩ := hb
  have l1 := hI _ i1
  have l2 := hJ _ i2
  clear hI hJ i1 i2
  have H1 := hide h1
  have H2 := hide h2
  clear h1 h2
  go_enter Tryz.func9, Tryz.ntmps9
  go_wp2
  go_loopw [5] (fun i wr => ∃ k : Nat, k ≤ ws.length ∧ i = .int .i64 k ∧ ∃ n, wr = w.drewN n) (fun i _ => ws.length - (intOf i).toNat)
  case atStart => exact ⟨0, Nat.zero_le _, rfl, 0, rfl⟩
  case round =>
    obtain ⟨k, hk, rfl, nd, rfl⟩ := hrel
    by_cases hlt : k < ws.length
    · have p1 := H1.out k hlt
      have p2 := H2.out k hlt
      have k0 : (0 : Int) ≤ (k : Int) := by omega
      have k1 : (k : Int) < (ws.length : Int) := by omega
      generalize ws[k] = x at *
      go_wp2
      go_quiet (fail)
      go_wp2
      go_roundw
      case rel => exact ⟨k + 1, by omega, by go_num, _, rfl⟩
      case measure => simp [intOf]; omega
    · have he : k = ws.length := by omega
      subst he
      go_wp2
      go_ret
      exact ⟨rfl, drewB _ _⟩
end Go.Proofs.YtnmkggoampkekaaGreatDoor

/- What Preds, Open and Widest answer of both sides. -/
namespace Go.Proofs.YtnmkggoampkekaaGreatDoor
open Go.RowKit Go.Maps

/-- The rows of words that Preds tells. -/
def PredsM (w : World) (cs : List HV) (m : Nat) (v : Value) : Prop := ∃ rs I h0, PrAt w h0 I v rs ∧ rs.length = m ∧ RowsTo cs rs
theorem PredsM.nil (w : World) (cs : List HV) : PredsM w cs 0 (.slice none 0 0) :=
  ⟨[], fun _ => False, w.heap.size, ⟨World.ownsRow_nil _ _ _ _, fun x hx => by simp at hx, fun _ h => h.elim⟩, rfl, fun j hj => by simp at hj⟩
/-- What both sides answer of Preds, Open and Widest. -/
structure TellsBoth (v0 v1 v2 : Value) (cs : List HV) (t : Int) (c : Int) (m : Nat) (cO : Int) (qs : List Nat) (wd : Int) (U : World) : Prop where
  pr : Calls Tryz.prog 4 #[.agg #[v0, v1, v2]] U fun e w' => (∃ v, e = .returned (.tuple #[v, .int .i64 c]) ∧ PredsM w' cs m v) ∧ Below U.heap.size U w'
  rpr : Calls Tryz.prog 5 #[.agg #[v0, v1, v2]] U fun e w' => (∃ v, e = .returned (.tuple #[v, .int .i64 c]) ∧ PredsM w' cs m v) ∧ Below U.heap.size U w'
  op : Calls Tryz.prog 10 #[.agg #[v0, v1, v2], .int .i64 t] U fun e w' => (∃ v L, e = .returned (.tuple #[v, .int .i64 cO]) ∧ w'.ownsRow L 3 1 v qs.length (natsH qs)) ∧ Below U.heap.size U w'
  rop : Calls Tryz.prog 11 #[.agg #[v0, v1, v2], .int .i64 t] U fun e w' => (∃ v L, e = .returned (.tuple #[v, .int .i64 cO]) ∧ w'.ownsRow L 3 1 v qs.length (natsH qs)) ∧ Below U.heap.size U w'
  wi : Calls Tryz.prog 12 #[.agg #[v0, v1, v2]] U fun e w' => e = .returned (.tuple #[.int .i64 wd, .int .i64 c]) ∧ Below U.heap.size U w'
  rwi : Calls Tryz.prog 13 #[.agg #[v0, v1, v2]] U fun e w' => e = .returned (.tuple #[.int .i64 wd, .int .i64 c]) ∧ Below U.heap.size U w'
theorem rck_of (n : Nat) (v0 v1 v2 : Value) (P O : List (List UInt8)) (cs : List HV) (c : Int) (L : List Evn) (U : World) (h : HPast U U.heap.size (n + 1) v0 v1 v2 P O cs) (hr : ∀ V, Below U.heap.size U V → REv n v0 v1 v2 c L V) :
    ∀ V, Below U.heap.size U V → Calls Tryz.prog 19 #[.agg #[v0, v1, v2]] V fun e w' => e = .returned (.int .i64 c) ∧ Below V.heap.size V w' := by
  intro V hV
  obtain ⟨a0, c0, rfl, _⟩ := h.pr.len
  obtain ⟨a1, c1, rfl, _⟩ := h.ob.len
  obtain ⟨a2, c2, rfl, _⟩ := h.cl.len
  exact refCheck_k V a0 a1 a2 _ _ _ c0 c1 c2 c (fun w' v => EvsAt w' w'.heap.size (n + 1) v L) (fun V' hV' => (hr V' (hV.trans (hV'.mono hV.size))).rev)
theorem open_both (n : Nat) (v0 v1 v2 : Value) (P O : List (List UInt8)) (cs : List HV) (hcs : cs.length ≤ 100000000) (t : Int) : ∃ (cO : Int) (qs : List Nat), qs.length ≤ 100000000 ∧ ∀ U, TabL U → HPast U U.heap.size (n + 1) v0 v1 v2 P O cs →
    (Calls Tryz.prog 10 #[.agg #[v0, v1, v2], .int .i64 t] U fun e w' => (∃ v L, e = .returned (.tuple #[v, .int .i64 cO]) ∧ w'.ownsRow L 3 1 v qs.length (natsH qs)) ∧ Below U.heap.size U w') ∧
    (Calls Tryz.prog 11 #[.agg #[v0, v1, v2], .int .i64 t] U fun e w' => (∃ v L, e = .returned (.tuple #[v, .int .i64 cO]) ∧ w'.ownsRow L 3 1 v qs.length (natsH qs)) ∧ Below U.heap.size U w') := by
  have hno : ∀ (U : World) (e : Ending) (w' : World), e = .returned (.tuple #[.slice none 0 0, .int .i64 2]) ∧ Below U.heap.size U w' → (∃ v L, e = .returned (.tuple #[v, .int .i64 2]) ∧ w'.ownsRow L 3 1 v ([] : List Nat).length (natsH [])) ∧ Below U.heap.size U w' :=
    fun U e w' h => ⟨⟨_, 0, h.1, World.ownsRow_nil _ _ _ _⟩, h.2⟩
  by_cases ht : ToldOk P O cs
  · obtain ⟨E, hlm, hag⟩ := id ht
    have F := (told_made hlm hag).plcs
    have hres : ∀ j (hj : j < cs.length), -1 ≤ cs[j].1.res := fun j hj => by
      rcases F.res j hj with a | ⟨r, a, _⟩ <;> omega
    have hEl : (E.map (·.1)).length = placesM cs := by rw [List.length_map]; exact laidN_len _ _ hlm
    by_cases hb : 0 ≤ t ∧ t ≤ (placesM cs : Int)
    · refine ⟨0, opnTo cs t cs.length, Nat.le_trans (opnTo_len cs t cs.length) hcs, fun U hT h => ⟨?_, ?_⟩⟩
      · exact (openY_k U n v0 v1 v2 P O cs hT h hcs ht t hb.1 hb.2).mono (fun e w' hh => ⟨by obtain ⟨v, e1, e2⟩ := hh.1; exact ⟨v, _, e1, e2⟩, hh.2⟩)
      · exact (refOpenY_k U n v0 v1 v2 P O cs h hcs _ (fun V hV => rev_yes n v0 v1 v2 P O cs hcs E hlm hag V ((h.below hV).up hV.size)) hres t hb.1 (by rw [hEl]; exact hb.2)).mono (fun e w' hh => ⟨by obtain ⟨v, e1, e2⟩ := hh.1; exact ⟨v, _, e1, e2⟩, hh.2⟩)
    · refine ⟨2, [], Nat.zero_le _, fun U hT h => ⟨?_, ?_⟩⟩
      · exact (openN_k U n v0 v1 v2 P O cs hT h hcs t (.inr (by omega))).mono (hno U)
      · exact (refOpenN_k U n v0 v1 v2 P O cs h 0 _ (fun V hV => rev_yes n v0 v1 v2 P O cs hcs E hlm hag V ((h.below hV).up hV.size)) t (.inr (by rw [hEl]; omega))).mono (hno U)
  · refine ⟨2, [], Nat.zero_le _, fun U hT h => ⟨?_, ?_⟩⟩
    · exact (openN_k U n v0 v1 v2 P O cs hT h hcs t (.inl ht)).mono (hno U)
    · exact (refOpenN_k U n v0 v1 v2 P O cs h 2 [] (fun V hV => rev_no n v0 v1 v2 P O cs hcs ht V ((h.below hV).up hV.size)) t (.inl (by decide))).mono (hno U)
theorem tells_both (n : Nat) (v0 v1 v2 : Value) (P O : List (List UInt8)) (cs : List HV) (hcs : cs.length ≤ 100000000) (t : Int) : ∃ (c : Int) (m : Nat) (cO : Int) (qs : List Nat) (wd : Int), (m ≤ 100000000 ∧ qs.length ≤ 100000000) ∧ ((m = 0 ∨ m = cs.length)) ∧ ∀ U, TabL U → HPast U U.heap.size (n + 1) v0 v1 v2 P O cs → TellsBoth v0 v1 v2 cs t c m cO qs wd U := by
  obtain ⟨cO, qs, hqs, hop⟩ := open_both n v0 v1 v2 P O cs hcs t
  by_cases ht : ToldOk P O cs
  · obtain ⟨E, hlm, hag⟩ := id ht
    have F := (told_made hlm hag).plcs
    have hres : ∀ j (hj : j < cs.length), -1 ≤ cs[j].1.res := fun j hj => by
      rcases F.res j hj with a | ⟨r, a, _⟩ <;> omega
    have hEl : E.length = placesM cs := laidN_len _ _ hlm
    have hEb : E.length ≤ 200000000 := by have := placesN_le cs cs.length; unfold placesM at hEl; omega
    have hw := (wid_opn F (E.map (·.1)).length (Nat.le_refl _)).2
    refine ⟨0, cs.length, cO, qs, (wid (E.map (·.1)) (E.map (·.1)).length).2, ⟨hcs, hqs⟩, .inr rfl, fun U hT h => ?_⟩
    have hrev := fun V (hV : Below U.heap.size U V) => rev_yes n v0 v1 v2 P O cs hcs E hlm hag V ((h.below hV).up hV.size)
    refine ⟨?_, ?_, (hop U hT h).1, (hop U hT h).2, ?_, ?_⟩
    · refine (predsY_k U n v0 v1 v2 P O cs hT h hcs E hlm hag).mono ?_
      rintro e w' ⟨⟨v, rfl, rs, I, h0, p1, p2, p3⟩, hb⟩
      exact ⟨⟨v, rfl, rs, I, h0, p1, p2, p3⟩, hb⟩
    · refine (refPredsY_k U n v0 v1 v2 P O cs h hag.few (rck_of n v0 v1 v2 P O cs 0 _ U h hrev)).mono ?_
      rintro e w' ⟨⟨v, rfl, rs, I, h0, p1, p2, p3⟩, hb⟩
      exact ⟨⟨v, rfl, rs, I, h0, p1, p2, p3⟩, hb⟩
    · exact widestY_k U n v0 v1 v2 P O cs hT h hcs E hlm hag
    · rw [hw]
      exact refWidestY_k U n v0 v1 v2 P O cs h hcs _ (by rw [List.length_map]; omega) hrev hres
  · refine ⟨2, 0, cO, qs, 0, ⟨by omega, hqs⟩, .inl rfl, fun U hT h => ?_⟩
    have hrev := fun V (hV : Below U.heap.size U V) => rev_no n v0 v1 v2 P O cs hcs ht V ((h.below hV).up hV.size)
    refine ⟨?_, ?_, (hop U hT h).1, (hop U hT h).2, ?_, ?_⟩
    · exact (predsN_k U n v0 v1 v2 P O cs hT h hcs ht).mono (fun e w' hh => ⟨⟨_, hh.1, PredsM.nil _ _⟩, hh.2⟩)
    · exact (refPredsN_k U n v0 v1 v2 P O cs h (rck_of n v0 v1 v2 P O cs 2 _ U h hrev)).mono (fun e w' hh => ⟨⟨_, hh.1, PredsM.nil _ _⟩, hh.2⟩)
    · exact widestN_k U n v0 v1 v2 P O cs hT h hcs ht
    · exact refWidestN_k U n v0 v1 v2 P O cs h _ hrev
end Go.Proofs.YtnmkggoampkekaaGreatDoor
