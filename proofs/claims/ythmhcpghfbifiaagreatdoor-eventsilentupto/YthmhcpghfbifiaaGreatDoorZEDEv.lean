/- An event out of bytes. -/
import Derived.Test.YthmhcpghfbifiaaGreatDoorZEDVal
import Derived.Test.YthmhcpghfbifiaaGreatDoorGE2
import Derived.Test.YthmhcpghfbifiaaGreatDoorGBkA
import Derived.Test.YthmhcpghfbifiaaGreatDoorGGvA
namespace Go.Proofs.YthmhcpghfbifiaaGreatDoor
open Go.RowKit

abbrev zeD : Evn := ⟨0, [], [], [], ⟨0, 0, 0, ⟨#[]⟩, []⟩, 0, 0, 0⟩
theorem infoEvD : (Tryz.prog.info? 48).map (fun i => i.size) = some 12 := by kernel_rfl
theorem textOf_len (l : List UInt8) : (textOf l).length ≤ l.length := by
  unfold textOf
  split
  · rw [List.length_take, List.length_drop]; omega
  · simp
theorem textRest_drop {l r : List UInt8} (h : ∃ p, p ≤ l.length ∧ r = l.drop p) : ∃ p, p ≤ l.length ∧ textRest r = l.drop p := by
  obtain ⟨p, hp, rfl⟩ := h
  unfold textRest
  split
  · rename_i h
    have h2 := front_fits (l.drop p)
    rw [List.length_drop] at h h2
    exact ⟨p + ((front (l.drop p)).2.1 + (front (l.drop p)).1), by omega, by rw [List.drop_drop]⟩
  · exact ⟨p, hp, rfl⟩
theorem textRest_len (l : List UInt8) : (textRest l).length ≤ l.length := by
  unfold textRest
  split
  · rw [List.length_drop]; omega
  · exact Nat.le_refl _
/-- An event out of bytes in the making. -/
structure DSt (w : World) (E db rb lo B : Nat) (sl : Value) (l : List UInt8) (V : World) (cs : List Value) (r : List UInt8) : Prop where
  ev : V.heap[E]? = some (.cells ⟨cs⟩ 48 (0, 0))
  dec : EDAt V db rb lo B sl l r
  gr : w.grownBy V (some rb)
  hE : w.heap.size < E
  hdb : db < w.heap.size
  res : V.heap[w.heap.size]? = some (.cells (evCells zeD (.slice none 0 0)) 48 (0, 0))
  tabs : Tabs V
  ho : rb ≠ 2 ∧ rb ≠ 0
  tw : 2 < w.heap.size ∧ 0 < w.heap.size
  hl : l.length ≤ 1000000000000
theorem DSt.grow {w V V' : World} {E db rb lo B : Nat} {sl : Value} {l r r' : List UInt8} {cs : List Value} (h : DSt w E db rb lo B sl l V cs r) (g : V.grownBy V' (some rb)) (hd : EDAt V' db rb lo B sl l r') : DSt w E db rb lo B sl l V' cs r' := by
  have hEl : E < V.heap.size := (Array.getElem?_eq_some_iff.1 h.ev).1
  have h1 := h.hE
  have h2 := h.dec.hrb
  have h3 := h.hdb
  exact ⟨(g.block E hEl (by simp; omega)).trans h.ev, hd, grown_more h.gr g, h.hE, h.hdb, (g.block _ (by omega) (by simp; omega)).trans h.res, h.tabs.grown g (Ne.symm h.ho.1) (Ne.symm h.ho.2), h.ho, h.tw, h.hl⟩
theorem DSt.set {w V : World} {E db rb lo B : Nat} {sl : Value} {l r : List UInt8} {cs : List Value} (h : DSt w E db rb lo B sl l V cs r) (i : Nat) (v : Value) : DSt w E db rb lo B sl l (V.setCell ⟨E, i, none⟩ v) (cs.set i v) r := by
  have h1 := h.hE
  have h2 := h.dec.hrb
  have h3 := h.hdb
  have hk : ∀ k, k < E → (V.setCell ⟨E, i, none⟩ v).heap[k]? = V.heap[k]? := fun k hk => Below.heap_setCell _ _ _ _ (by show k ≠ E; omega)
  have e := heap_setCell_same V E i _ _ v h.ev
  rw [List.setIfInBounds_toArray] at e
  exact ⟨e, h.dec.same (fun k hk' => hk k (by omega)), grown_far h.gr (by omega), h.hE, h.hdb, (hk _ h1).trans h.res, by
    obtain ⟨t, z, e1⟩ := h.tabs.pow
    obtain ⟨t', z', e2⟩ := h.tabs.lets
    have := h.tw
    exact ⟨⟨t, z, (hk _ (by omega)).trans e1⟩, ⟨t', z', (hk _ (by omega)).trans e2⟩⟩, h.ho, h.tw, h.hl⟩
theorem DSt.text {w V : World} {E db rb lo B : Nat} {sl : Value} {l r : List UInt8} {cs : List Value} (h : DSt w E db rb lo B sl l V cs r) (x : Int) (hx : (textErr r : Int) = x) :
    Calls Tryz.prog 64 #[.pointer (some ⟨rb, 0, none⟩)] V fun e w' => e = .returned (.tuple #[.string (bsN (textOf r)), .int .i64 x]) ∧ DSt w E db rb lo B sl l w' cs (textRest r) := by
  subst hx
  refine (rText V rb lo r h.dec.rd).mono ?_
  rintro e w' ⟨he, hr, g⟩
  exact ⟨he, h.grow g (h.dec.kept g hr (textRest_drop h.dec.at'))⟩
theorem DSt.below {w V V' : World} {E db rb lo B : Nat} {sl : Value} {l r : List UInt8} {cs : List Value} (h : DSt w E db rb lo B sl l V cs r) (b : Below V.heap.size V V') : DSt w E db rb lo B sl l V' cs r :=
  h.grow (grown_of_below b) (h.dec.same fun k hk => b.block k (by have := (Array.getElem?_eq_some_iff.1 h.dec.blk).1; omega))
theorem DSt.value {w V : World} {E db rb lo B : Nat} {sl : Value} {l r : List UInt8} {cs : List Value} (h : DSt w E db rb lo B sl l V cs r) {v : Vl} {p : Nat} (hv : decVal6 r = some (v, p)) :
    Calls Tryz.prog 65 #[.pointer (some ⟨db, 0, none⟩)] V fun e w' => (∃ s', e = .returned (.agg (vcells v s')) ∧ ItemsIn w' (fun b => V.heap.size ≤ b ∧ b < w'.heap.size) 4097 s' v.items) ∧ V.grownBy w' (some rb) ∧ DSt w E db rb lo B sl l w' cs (r.drop p) := by
  unfold decVal6 at hv
  cases hd : decM r 4097 0 0 with
  | none => rw [hd] at hv; cases hv
  | some z =>
    obtain ⟨v', q, q'⟩ := z
    rw [hd] at hv
    simp only at hv
    split at hv
    · rename_i hr
      simp only [Option.some.injEq, Prod.mk.injEq] at hv
      obtain ⟨rfl, rfl⟩ := hv
      refine (dval_ok V db rb lo B sl l r 4097 h.dec h.tabs (by have := h.hl; omega) v' q q' hd hr).mono ?_
      rintro e w' ⟨s', he, hi, hD, g⟩
      exact ⟨⟨s', he, hi⟩, g, h.grow g hD⟩
    · cases hv
theorem DSt.noValue {w V : World} {E db rb lo B : Nat} {sl : Value} {l r : List UInt8} {cs : List Value} (h : DSt w E db rb lo B sl l V cs r) (hv : decVal6 r = none) :
    Calls Tryz.prog 65 #[.pointer (some ⟨db, 0, none⟩)] V fun e w' => e = gaveUp6 ∧ w.grownBy w' (some rb) := by
  refine (dval_no V db rb lo B sl l r 4097 h.dec h.tabs (by have := h.hl; omega) rfl hv).mono ?_
  rintro e w' ⟨he, g⟩
  exact ⟨he, grown_more h.gr g⟩
/-- What event comes to. -/
def EdR (w : World) (db rb lo B : Nat) (sl : Value) (l r : List UInt8) (e : Ending) (w' : World) : Prop :=
  w.grownBy w' (some rb) ∧ match decEv6 r with
  | some (x, r') => (∃ s', e = .returned (.agg (evCells x s')) ∧ ItemsIn w' (fun b => w.heap.size ≤ b ∧ b < w'.heap.size) 4097 s' x.val.items) ∧ EDAt w' db rb lo B sl l r'
  | none => e = gaveUp6
theorem EdR.of_no {w w' : World} {db rb lo B : Nat} {sl : Value} {l r : List UInt8} {e : Ending} (h : decEv6 r = none) (g : w.grownBy w' (some rb)) (he : e = gaveUp6) : EdR w db rb lo B sl l r e w' := by
  refine ⟨g, ?_⟩
  rw [h]
  exact he
theorem EdR.of_ok {w w' : World} {db rb lo B : Nat} {sl : Value} {l r r' : List UInt8} {e : Ending} {x : Evn} (h : decEv6 r = some (x, r')) (g : w.grownBy w' (some rb)) (s' : Value) (he : e = .returned (.agg (evCells x s'))) (hi : ItemsIn w' (fun b => w.heap.size ≤ b ∧ b < w'.heap.size) 4097 s' x.val.items) (hd : EDAt w' db rb lo B sl l r') : EdR w db rb lo B sl l r e w' := by
  refine ⟨g, ?_⟩
  rw [h]
  exact ⟨⟨s', he, hi⟩, hd⟩
theorem dev_end (w V Y : World) (E db rb lo B : Nat) (sl : Value) (l r : List UInt8) (cs : List Value) (h : DSt w E db rb lo B sl l V cs r) (x : Evn) (s' : Value)
    (hY : putN V w.heap.size 0 (evCells x s').toList = Y) : Y.heap[w.heap.size]? = some (.cells (evCells x s') 48 (0, 0)) ∧ w.grownBy Y (some rb) ∧ (∀ k, k ≠ w.heap.size → Y.heap[k]? = V.heap[k]?) ∧ Y.heap.size = V.heap.size ∧ EDAt Y db rb lo B sl l r := by
  subst hY
  have h1 := putN_at (evCells x s').toList 0 V _ h.res rfl
  have h3 := h.hdb
  exact ⟨h1, putN_far h.gr (Nat.le_refl _) _ _, fun k hk => putN_other hk _ _ _, putN_size _ _ _, h.dec.same fun k hk => putN_other (by omega) _ _ _⟩
theorem dev_start (w W w1 V : World) (db rb lo B : Nat) (sl : Value) (l : List UInt8) (x : UInt8) (r : List UInt8) (hD : EDAt w db rb lo B sl l (x :: r)) (hl : l.length ≤ 1000000000000) (hT : Tabs w) (ho : rb ≠ 2 ∧ rb ≠ 0)
    (bW : Below w.heap.size w W) (zW : W.heap.size = w.heap.size + 1) (eW : W.heap[w.heap.size]? = some (.cells (evCells zeD (.slice none 0 0)) 48 (0, 0)))
    (r1 : Rd w1 rb lo r) (g1 : W.grownBy w1 (some rb)) (bV : Below w1.heap.size w1 V) (cs : List Value) (eV : V.heap[w1.heap.size]? = some (.cells ⟨cs⟩ 48 (0, 0))) :
    DSt w w1.heap.size db rb lo B sl l V cs r := by
  have h1 := g1.size
  have hdb : db < w.heap.size := (Array.getElem?_eq_some_iff.1 hD.blk).1
  have h2 := hD.hrb
  have hDW : EDAt W db rb lo B sl l (x :: r) := hD.same fun k hk => bW.block k (by omega)
  have hD1 : EDAt w1 db rb lo B sl l r := hDW.kept g1 r1 (by
    obtain ⟨p, hp, he⟩ := hD.at'
    have h3 : r = (x :: r).drop 1 := rfl
    have h4 : (x :: r).length = l.length - p := by rw [he, List.length_drop]
    simp at h4
    exact ⟨p + 1, by omega, by rw [h3, he, List.drop_drop]⟩)
  have gw : w.grownBy V (some rb) := grown_more (grown_of_below bW) (grown_more g1 (grown_of_below bV))
  exact ⟨eV, hD1.same fun k hk => bV.block k (by omega), gw, by omega, hdb, (bV.block _ (by omega)).trans ((g1.block _ (by omega) (by simp; omega)).trans eW), hT.grown gw (Ne.symm ho.1) (Ne.symm ho.2), ho, hT.room, hl⟩

set_option maxRecDepth 100000 in
set_option maxHeartbeats 2000000 in
theorem dev_none (w : World) (db rb lo B : Nat) (sl : Value) (l : List UInt8) (hD : EDAt w db rb lo B sl l []) :
    Calls Tryz.prog 39 #[.pointer (some ⟨db, 0, none⟩)] w fun e w' => EdR w db rb lo B sl l [] e w' := by
  have hdb : db < w.heap.size := (Array.getElem?_eq_some_iff.1 hD.blk).1
  obtain ⟨W, hW⟩ : ∃ W, w.alloc (.cells (evCells zeD (.slice none 0 0)) 48) = W := ⟨_, rfl⟩
  have bW : Below w.heap.size w W := by rw [← hW]; exact alloc_v (Below.refl _ _) _
  have zW : W.heap.size = w.heap.size + 1 := by rw [← hW]; simp
  have eW : W.heap[w.heap.size]? = some (.cells (evCells zeD (.slice none 0 0)) 48 (0, 0)) := by rw [← hW]; exact World.alloc_heap_new w _
  have hDW := hD.same (w' := W) (fun k hk => bW.block k (by omega))
  have d1 := cells_at hDW.blk 1 _ rfl
  have HU8 := hide (rU8_none W rb lo hDW.rd)
  have HF := hide (show decEv6 [] = none from rfl)
  clear hD hDW eW
  go_enter Tryz.func39, Tryz.ntmps39
  go_wp2_with (first
    | (go_at_call 62; refine HU8.out.mono ?_; clear HU8; rintro e w1 ⟨rfl, rfl⟩)
    | (go_at_call 61; refine (sure8_6no _ _ (by decide) _).mono ?_; rintro e w2 ⟨rfl, rfl⟩))
  exact ⟨rfl, EdR.of_no HF.out (grown_of_below bW) rfl⟩

theorem zV_ok : Vl.ok ⟨0, 0, 0, ⟨#[]⟩, []⟩ := ⟨by decide, by decide, by decide⟩
theorem frame_go {e : Evn} {b : Bool} (hf : framedB e = b) (he : EvLo e) (w : World) (hT : Tabs w) :
    Calls Tryz.prog 13 #[.agg (evCells e (.slice none 0 0))] w fun r w' => r = .returned (.bool b) ∧ Below w.heap.size w w' := by
  subst hf
  exact framed_k e w none 0 0 he hT

set_option maxRecDepth 100000 in
set_option maxHeartbeats 2000000 in
theorem dev_i_t0 (w : World) (db rb lo B : Nat) (sl : Value) (l : List UInt8) (x : UInt8) (r : List UInt8) (hD : EDAt w db rb lo B sl l (x :: r)) (hl : l.length ≤ 1000000000000) (hT : Tabs w) (ho : rb ≠ 2 ∧ rb ≠ 0) (hk : x.toNat = 1) (t0 : ¬ textErr r = 0) :
    Calls Tryz.prog 39 #[.pointer (some ⟨db, 0, none⟩)] w fun e w' => EdR w db rb lo B sl l (x :: r) e w' := by
  have HF := hide (show decEv6 (x :: r) = none by
    simp only [decEv6, decHead6]
    rw [if_neg t0])
  have hdb : db < w.heap.size := (Array.getElem?_eq_some_iff.1 hD.blk).1
  obtain ⟨W, hW⟩ : ∃ W, w.alloc (.cells (evCells zeD (.slice none 0 0)) 48) = W := ⟨_, rfl⟩
  have bW : Below w.heap.size w W := by rw [← hW]; exact alloc_v (Below.refl _ _) _
  have zW : W.heap.size = w.heap.size + 1 := by rw [← hW]; simp
  have eW : W.heap[w.heap.size]? = some (.cells (evCells zeD (.slice none 0 0)) 48 (0, 0)) := by rw [← hW]; exact World.alloc_heap_new w _
  have hDW := hD.same (w' := W) (fun k hk => bW.block k (by omega))
  have d1 := cells_at hDW.blk 1 _ rfl
  have HU8 := hide (rU8_some W rb lo x r hDW.rd)
  have hwr : IntKind.i64.wrap (x.toNat : Int) = (x.toNat : Int) := by have := x.toNat_lt; rw [IntKind.wrap_i64]; omega
  have hk1 : ((x.toNat : Int) == 1) = true := by simp; omega
  have hrl : r.length ≤ 1000000000000 := by
    obtain ⟨p', hp', he⟩ := hD.at'
    have := congrArg List.length he
    rw [List.length_drop] at this
    simp at this
    omega
  have HRL := hide hrl
  have HST := hide (fun (w1 V : World) (r1 : Rd w1 rb lo r) (g1 : W.grownBy w1 (some rb)) (bV : Below w1.heap.size w1 V) (cs : List Value) (eV : V.heap[w1.heap.size]? = some (.cells ⟨cs⟩ 48 (0, 0))) => dev_start w W w1 V db rb lo B sl l x r hD hl hT ho bW zW eW r1 g1 bV cs eV)
  have HK := hide hk
  clear hD hDW eW hT ho hl hrl hk
  go_enter Tryz.func39, Tryz.ntmps39
  go_wp2_with (first
    | (go_at_call 62; refine HU8.out.mono ?_; clear HU8; rintro e w1 ⟨rfl, r1, g1⟩; obtain ⟨V, hV⟩ : ∃ V, w1.alloc (.cells #[.int .i64 x.toNat, .string ⟨#[]⟩, .string ⟨#[]⟩, .string ⟨#[]⟩, .int .i64 0, .int .i64 0, .int .i64 0, .string ⟨#[]⟩, .slice none 0 0, .int .i64 0, .int .i64 0, .int .i64 0] 48) = V := ⟨_, rfl⟩; have bV : Below w1.heap.size w1 V := (by rw [← hV]; exact alloc_v (Below.refl _ _) _); have eV : V.heap[w1.heap.size]? = some (.cells #[.int .i64 x.toNat, .string ⟨#[]⟩, .string ⟨#[]⟩, .string ⟨#[]⟩, .int .i64 0, .int .i64 0, .int .i64 0, .string ⟨#[]⟩, .slice none 0 0, .int .i64 0, .int .i64 0, .int .i64 0] 48 (0, 0)) := (by rw [← hV]; exact World.alloc_heap_new w1 _); have S0 := HST.out w1 V r1 g1 bV _ eV; have HN0 := hide (S0.text _ rfl); have dd1 := cells_at S0.dec.blk 1 _ rfl; clear r1 g1 bV eV S0 HST; subst hV)
    | (go_at_call 61; refine (sure8_6 _ _).mono ?_; rintro e w2 ⟨rfl, rfl⟩)
    | (go_at_call 64; refine HN0.out.mono ?_; clear HN0; rintro e u0 ⟨rfl, T0⟩; have G9 := hide T0.gr; clear T0)
    | (go_at_call 63; first | (refine (sureS_6no _ _ (by exact fun h => t0 (by exact_mod_cast h)) _).mono ?_; rintro e w2 ⟨rfl, rfl⟩) | (refine (sureS_6 _ _).mono ?_; rintro e w2 ⟨rfl, rfl⟩)))
  exact ⟨rfl, EdR.of_no HF.out G9.out rfl⟩

set_option maxRecDepth 100000 in
set_option maxHeartbeats 2000000 in
theorem dev_i_t1 (w : World) (db rb lo B : Nat) (sl : Value) (l : List UInt8) (x : UInt8) (r : List UInt8) (hD : EDAt w db rb lo B sl l (x :: r)) (hl : l.length ≤ 1000000000000) (hT : Tabs w) (ho : rb ≠ 2 ∧ rb ≠ 0) (hk : x.toNat = 1) (t0 : textErr r = 0) (t1 : ¬ textErr (textRest r) = 0) :
    Calls Tryz.prog 39 #[.pointer (some ⟨db, 0, none⟩)] w fun e w' => EdR w db rb lo B sl l (x :: r) e w' := by
  have HF := hide (show decEv6 (x :: r) = none by
    simp only [decEv6, decHead6]
    rw [if_pos t0, if_pos hk, if_neg t1])
  have hdb : db < w.heap.size := (Array.getElem?_eq_some_iff.1 hD.blk).1
  obtain ⟨W, hW⟩ : ∃ W, w.alloc (.cells (evCells zeD (.slice none 0 0)) 48) = W := ⟨_, rfl⟩
  have bW : Below w.heap.size w W := by rw [← hW]; exact alloc_v (Below.refl _ _) _
  have zW : W.heap.size = w.heap.size + 1 := by rw [← hW]; simp
  have eW : W.heap[w.heap.size]? = some (.cells (evCells zeD (.slice none 0 0)) 48 (0, 0)) := by rw [← hW]; exact World.alloc_heap_new w _
  have hDW := hD.same (w' := W) (fun k hk => bW.block k (by omega))
  have d1 := cells_at hDW.blk 1 _ rfl
  have HU8 := hide (rU8_some W rb lo x r hDW.rd)
  have hwr : IntKind.i64.wrap (x.toNat : Int) = (x.toNat : Int) := by have := x.toNat_lt; rw [IntKind.wrap_i64]; omega
  have hk1 : ((x.toNat : Int) == 1) = true := by simp; omega
  have hrl : r.length ≤ 1000000000000 := by
    obtain ⟨p', hp', he⟩ := hD.at'
    have := congrArg List.length he
    rw [List.length_drop] at this
    simp at this
    omega
  have HRL := hide hrl
  have HST := hide (fun (w1 V : World) (r1 : Rd w1 rb lo r) (g1 : W.grownBy w1 (some rb)) (bV : Below w1.heap.size w1 V) (cs : List Value) (eV : V.heap[w1.heap.size]? = some (.cells ⟨cs⟩ 48 (0, 0))) => dev_start w W w1 V db rb lo B sl l x r hD hl hT ho bW zW eW r1 g1 bV cs eV)
  have HK := hide hk
  clear hD hDW eW hT ho hl hrl hk
  go_enter Tryz.func39, Tryz.ntmps39
  go_wp2_with (first
    | (go_at_call 62; refine HU8.out.mono ?_; clear HU8; rintro e w1 ⟨rfl, r1, g1⟩; obtain ⟨V, hV⟩ : ∃ V, w1.alloc (.cells #[.int .i64 x.toNat, .string ⟨#[]⟩, .string ⟨#[]⟩, .string ⟨#[]⟩, .int .i64 0, .int .i64 0, .int .i64 0, .string ⟨#[]⟩, .slice none 0 0, .int .i64 0, .int .i64 0, .int .i64 0] 48) = V := ⟨_, rfl⟩; have bV : Below w1.heap.size w1 V := (by rw [← hV]; exact alloc_v (Below.refl _ _) _); have eV : V.heap[w1.heap.size]? = some (.cells #[.int .i64 x.toNat, .string ⟨#[]⟩, .string ⟨#[]⟩, .string ⟨#[]⟩, .int .i64 0, .int .i64 0, .int .i64 0, .string ⟨#[]⟩, .slice none 0 0, .int .i64 0, .int .i64 0, .int .i64 0] 48 (0, 0)) := (by rw [← hV]; exact World.alloc_heap_new w1 _); have S0 := HST.out w1 V r1 g1 bV _ eV; have HN0 := hide (S0.text 0 (by rw [t0]; rfl)); have dd1 := cells_at S0.dec.blk 1 _ rfl; clear r1 g1 bV eV S0 HST; subst hV)
    | (go_at_call 61; refine (sure8_6 _ _).mono ?_; rintro e w2 ⟨rfl, rfl⟩)
    | (go_at_call 64; refine HN0.out.mono ?_; clear HN0; rintro e u0 ⟨rfl, T0⟩; have a0 := cells_at T0.ev 1 _ rfl; have az0 := frozen_at T0.ev 1; have R0 := T0.set 1 (.string (bsN (textOf r))); simp only [List.set_cons_succ, List.set_cons_zero] at R0; have kk0 := cells_at R0.ev 0 _ rfl; have dq0 := cells_at R0.dec.blk 1 _ rfl; have HN1 := hide (R0.text _ rfl); clear T0 R0)
    | (go_at_call 64; refine HN1.out.mono ?_; clear HN1; rintro e u1 ⟨rfl, T1⟩; have G9 := hide T1.gr; clear T1)
    | (go_at_call 63; first | (refine (sureS_6no _ _ (by exact fun h => t1 (by exact_mod_cast h)) _).mono ?_; rintro e w2 ⟨rfl, rfl⟩) | (refine (sureS_6 _ _).mono ?_; rintro e w2 ⟨rfl, rfl⟩)))
  exact ⟨rfl, EdR.of_no HF.out G9.out rfl⟩

set_option maxRecDepth 100000 in
set_option maxHeartbeats 2000000 in
theorem dev_i_t2 (w : World) (db rb lo B : Nat) (sl : Value) (l : List UInt8) (x : UInt8) (r : List UInt8) (hD : EDAt w db rb lo B sl l (x :: r)) (hl : l.length ≤ 1000000000000) (hT : Tabs w) (ho : rb ≠ 2 ∧ rb ≠ 0) (hk : x.toNat = 1) (t0 : textErr r = 0) (t1 : textErr (textRest r) = 0) (t2 : ¬ textErr (textRest (textRest r)) = 0) :
    Calls Tryz.prog 39 #[.pointer (some ⟨db, 0, none⟩)] w fun e w' => EdR w db rb lo B sl l (x :: r) e w' := by
  have HF := hide (show decEv6 (x :: r) = none by
    simp only [decEv6, decHead6]
    rw [if_pos t0, if_pos hk, if_pos t1, if_neg t2])
  have hdb : db < w.heap.size := (Array.getElem?_eq_some_iff.1 hD.blk).1
  obtain ⟨W, hW⟩ : ∃ W, w.alloc (.cells (evCells zeD (.slice none 0 0)) 48) = W := ⟨_, rfl⟩
  have bW : Below w.heap.size w W := by rw [← hW]; exact alloc_v (Below.refl _ _) _
  have zW : W.heap.size = w.heap.size + 1 := by rw [← hW]; simp
  have eW : W.heap[w.heap.size]? = some (.cells (evCells zeD (.slice none 0 0)) 48 (0, 0)) := by rw [← hW]; exact World.alloc_heap_new w _
  have hDW := hD.same (w' := W) (fun k hk => bW.block k (by omega))
  have d1 := cells_at hDW.blk 1 _ rfl
  have HU8 := hide (rU8_some W rb lo x r hDW.rd)
  have hwr : IntKind.i64.wrap (x.toNat : Int) = (x.toNat : Int) := by have := x.toNat_lt; rw [IntKind.wrap_i64]; omega
  have hk1 : ((x.toNat : Int) == 1) = true := by simp; omega
  have hrl : r.length ≤ 1000000000000 := by
    obtain ⟨p', hp', he⟩ := hD.at'
    have := congrArg List.length he
    rw [List.length_drop] at this
    simp at this
    omega
  have HRL := hide hrl
  have HST := hide (fun (w1 V : World) (r1 : Rd w1 rb lo r) (g1 : W.grownBy w1 (some rb)) (bV : Below w1.heap.size w1 V) (cs : List Value) (eV : V.heap[w1.heap.size]? = some (.cells ⟨cs⟩ 48 (0, 0))) => dev_start w W w1 V db rb lo B sl l x r hD hl hT ho bW zW eW r1 g1 bV cs eV)
  have HK := hide hk
  clear hD hDW eW hT ho hl hrl hk
  go_enter Tryz.func39, Tryz.ntmps39
  go_wp2_with (first
    | (go_at_call 62; refine HU8.out.mono ?_; clear HU8; rintro e w1 ⟨rfl, r1, g1⟩; obtain ⟨V, hV⟩ : ∃ V, w1.alloc (.cells #[.int .i64 x.toNat, .string ⟨#[]⟩, .string ⟨#[]⟩, .string ⟨#[]⟩, .int .i64 0, .int .i64 0, .int .i64 0, .string ⟨#[]⟩, .slice none 0 0, .int .i64 0, .int .i64 0, .int .i64 0] 48) = V := ⟨_, rfl⟩; have bV : Below w1.heap.size w1 V := (by rw [← hV]; exact alloc_v (Below.refl _ _) _); have eV : V.heap[w1.heap.size]? = some (.cells #[.int .i64 x.toNat, .string ⟨#[]⟩, .string ⟨#[]⟩, .string ⟨#[]⟩, .int .i64 0, .int .i64 0, .int .i64 0, .string ⟨#[]⟩, .slice none 0 0, .int .i64 0, .int .i64 0, .int .i64 0] 48 (0, 0)) := (by rw [← hV]; exact World.alloc_heap_new w1 _); have S0 := HST.out w1 V r1 g1 bV _ eV; have HN0 := hide (S0.text 0 (by rw [t0]; rfl)); have dd1 := cells_at S0.dec.blk 1 _ rfl; clear r1 g1 bV eV S0 HST; subst hV)
    | (go_at_call 61; refine (sure8_6 _ _).mono ?_; rintro e w2 ⟨rfl, rfl⟩)
    | (go_at_call 64; refine HN0.out.mono ?_; clear HN0; rintro e u0 ⟨rfl, T0⟩; have a0 := cells_at T0.ev 1 _ rfl; have az0 := frozen_at T0.ev 1; have R0 := T0.set 1 (.string (bsN (textOf r))); simp only [List.set_cons_succ, List.set_cons_zero] at R0; have kk0 := cells_at R0.ev 0 _ rfl; have dq0 := cells_at R0.dec.blk 1 _ rfl; have HN1 := hide (R0.text 0 (by rw [t1]; rfl)); clear T0 R0)
    | (go_at_call 64; refine HN1.out.mono ?_; clear HN1; rintro e u1 ⟨rfl, T1⟩; have a1 := cells_at T1.ev 2 _ rfl; have az1 := frozen_at T1.ev 2; have R1 := T1.set 2 (.string (bsN (textOf (textRest r)))); simp only [List.set_cons_succ, List.set_cons_zero] at R1; have kk1 := cells_at R1.ev 0 _ rfl; have dq1 := cells_at R1.dec.blk 1 _ rfl; have HN2 := hide (R1.text _ rfl); clear T1 R1)
    | (go_at_call 64; refine HN2.out.mono ?_; clear HN2; rintro e u2 ⟨rfl, T2⟩; have G9 := hide T2.gr; clear T2)
    | (go_at_call 63; first | (refine (sureS_6no _ _ (by exact fun h => t2 (by exact_mod_cast h)) _).mono ?_; rintro e w2 ⟨rfl, rfl⟩) | (refine (sureS_6 _ _).mono ?_; rintro e w2 ⟨rfl, rfl⟩)))
  exact ⟨rfl, EdR.of_no HF.out G9.out rfl⟩

set_option maxRecDepth 100000 in
set_option maxHeartbeats 2000000 in
theorem dev_i_fr (w : World) (db rb lo B : Nat) (sl : Value) (l : List UInt8) (x : UInt8) (r : List UInt8) (hD : EDAt w db rb lo B sl l (x :: r)) (hl : l.length ≤ 1000000000000) (hT : Tabs w) (ho : rb ≠ 2 ∧ rb ≠ 0) (hk : x.toNat = 1) (t0 : textErr r = 0) (t1 : textErr (textRest r) = 0) (t2 : textErr (textRest (textRest r)) = 0) (hf : framedB ⟨(x.toNat : Int), textOf r, textOf (textRest r), textOf (textRest (textRest r)), ⟨0, 0, 0, ⟨#[]⟩, []⟩, 0, 0, 0⟩ = false) :
    Calls Tryz.prog 39 #[.pointer (some ⟨db, 0, none⟩)] w fun e w' => EdR w db rb lo B sl l (x :: r) e w' := by
  have hf1 : framedB ⟨1, textOf r, textOf (textRest r), textOf (textRest (textRest r)), ⟨0, 0, 0, ⟨#[]⟩, []⟩, 0, 0, 0⟩ = false := by
    have h := hf
    rw [hk] at h
    exact h
  have HF := hide (show decEv6 (x :: r) = none by
    simp only [decEv6, decHead6]
    rw [if_pos t0, if_pos hk, if_pos t1, if_pos t2]
    simp only [hf1, Bool.false_eq_true, if_false])
  have hdb : db < w.heap.size := (Array.getElem?_eq_some_iff.1 hD.blk).1
  obtain ⟨W, hW⟩ : ∃ W, w.alloc (.cells (evCells zeD (.slice none 0 0)) 48) = W := ⟨_, rfl⟩
  have bW : Below w.heap.size w W := by rw [← hW]; exact alloc_v (Below.refl _ _) _
  have zW : W.heap.size = w.heap.size + 1 := by rw [← hW]; simp
  have eW : W.heap[w.heap.size]? = some (.cells (evCells zeD (.slice none 0 0)) 48 (0, 0)) := by rw [← hW]; exact World.alloc_heap_new w _
  have hDW := hD.same (w' := W) (fun k hk => bW.block k (by omega))
  have d1 := cells_at hDW.blk 1 _ rfl
  have HU8 := hide (rU8_some W rb lo x r hDW.rd)
  have hwr : IntKind.i64.wrap (x.toNat : Int) = (x.toNat : Int) := by have := x.toNat_lt; rw [IntKind.wrap_i64]; omega
  have hk1 : ((x.toNat : Int) == 1) = true := by simp; omega
  have hrl : r.length ≤ 1000000000000 := by
    obtain ⟨p', hp', he⟩ := hD.at'
    have := congrArg List.length he
    rw [List.length_drop] at this
    simp at this
    omega
  have HRL := hide hrl
  have HST := hide (fun (w1 V : World) (r1 : Rd w1 rb lo r) (g1 : W.grownBy w1 (some rb)) (bV : Below w1.heap.size w1 V) (cs : List Value) (eV : V.heap[w1.heap.size]? = some (.cells ⟨cs⟩ 48 (0, 0))) => dev_start w W w1 V db rb lo B sl l x r hD hl hT ho bW zW eW r1 g1 bV cs eV)
  have HK := hide hk
  clear hD hDW eW hT ho hl hrl hk
  go_enter Tryz.func39, Tryz.ntmps39
  go_wp2_with (first
    | (go_at_call 62; refine HU8.out.mono ?_; clear HU8; rintro e w1 ⟨rfl, r1, g1⟩; obtain ⟨V, hV⟩ : ∃ V, w1.alloc (.cells #[.int .i64 x.toNat, .string ⟨#[]⟩, .string ⟨#[]⟩, .string ⟨#[]⟩, .int .i64 0, .int .i64 0, .int .i64 0, .string ⟨#[]⟩, .slice none 0 0, .int .i64 0, .int .i64 0, .int .i64 0] 48) = V := ⟨_, rfl⟩; have bV : Below w1.heap.size w1 V := (by rw [← hV]; exact alloc_v (Below.refl _ _) _); have eV : V.heap[w1.heap.size]? = some (.cells #[.int .i64 x.toNat, .string ⟨#[]⟩, .string ⟨#[]⟩, .string ⟨#[]⟩, .int .i64 0, .int .i64 0, .int .i64 0, .string ⟨#[]⟩, .slice none 0 0, .int .i64 0, .int .i64 0, .int .i64 0] 48 (0, 0)) := (by rw [← hV]; exact World.alloc_heap_new w1 _); have S0 := HST.out w1 V r1 g1 bV _ eV; have HN0 := hide (S0.text 0 (by rw [t0]; rfl)); have dd1 := cells_at S0.dec.blk 1 _ rfl; clear r1 g1 bV eV S0 HST; subst hV)
    | (go_at_call 61; refine (sure8_6 _ _).mono ?_; rintro e w2 ⟨rfl, rfl⟩)
    | (go_at_call 64; refine HN0.out.mono ?_; clear HN0; rintro e u0 ⟨rfl, T0⟩; have a0 := cells_at T0.ev 1 _ rfl; have az0 := frozen_at T0.ev 1; have R0 := T0.set 1 (.string (bsN (textOf r))); simp only [List.set_cons_succ, List.set_cons_zero] at R0; have kk0 := cells_at R0.ev 0 _ rfl; have dq0 := cells_at R0.dec.blk 1 _ rfl; have HN1 := hide (R0.text 0 (by rw [t1]; rfl)); clear T0 R0)
    | (go_at_call 64; refine HN1.out.mono ?_; clear HN1; rintro e u1 ⟨rfl, T1⟩; have a1 := cells_at T1.ev 2 _ rfl; have az1 := frozen_at T1.ev 2; have R1 := T1.set 2 (.string (bsN (textOf (textRest r)))); simp only [List.set_cons_succ, List.set_cons_zero] at R1; have kk1 := cells_at R1.ev 0 _ rfl; have dq1 := cells_at R1.dec.blk 1 _ rfl; have HN2 := hide (R1.text 0 (by rw [t2]; rfl)); clear T1 R1)
    | (go_at_call 64; refine HN2.out.mono ?_; clear HN2; rintro e u2 ⟨rfl, T2⟩; have a2 := cells_at T2.ev 3 _ rfl; have az2 := frozen_at T2.ev 3; have R2 := T2.set 3 (.string (bsN (textOf (textRest (textRest r))))); simp only [List.set_cons_succ, List.set_cons_zero] at R2; have kk2 := cells_at R2.ev 0 _ rfl; have dq2 := cells_at R2.dec.blk 1 _ rfl; have y0 := cells_at R2.ev 0 _ rfl; have y1 := cells_at R2.ev 1 _ rfl; have y2 := cells_at R2.ev 2 _ rfl; have y3 := cells_at R2.ev 3 _ rfl; have y4 := cells_at R2.ev 4 _ rfl; have y5 := cells_at R2.ev 5 _ rfl; have y6 := cells_at R2.ev 6 _ rfl; have y7 := cells_at R2.ev 7 _ rfl; have y8 := cells_at R2.ev 8 _ rfl; have y9 := cells_at R2.ev 9 _ rfl; have y10 := cells_at R2.ev 10 _ rfl; have y11 := cells_at R2.ev 11 _ rfl; have RS := hide R2; clear T2 R2)
    | (go_at_call 63; refine (sureS_6 _ _).mono ?_; rintro e w2 ⟨rfl, rfl⟩)
    | (go_at_call 13; refine (frame_go (e := ⟨(x.toNat : Int), textOf r, textOf (textRest r), textOf (textRest (textRest r)), ⟨0, 0, 0, ⟨#[]⟩, []⟩, 0, 0, 0⟩) hf ⟨by have := textOf_len r; have := HRL.out; simp only; omega, by have := textOf_len (textRest r); have := textRest_len r; have := HRL.out; simp only; omega, by have := textOf_len (textRest (textRest r)); have := textRest_len (textRest r); have := textRest_len r; have := HRL.out; simp only; omega, zV_ok⟩ _ RS.out.tabs).mono ?_; rintro e w7 ⟨rfl, b7⟩; have G9 := hide (RS.out.below b7).gr; clear b7))
  exact ⟨rfl, EdR.of_no HF.out G9.out rfl⟩

set_option maxRecDepth 100000 in
set_option maxHeartbeats 2000000 in
theorem dev_i_nv (w : World) (db rb lo B : Nat) (sl : Value) (l : List UInt8) (x : UInt8) (r : List UInt8) (hD : EDAt w db rb lo B sl l (x :: r)) (hl : l.length ≤ 1000000000000) (hT : Tabs w) (ho : rb ≠ 2 ∧ rb ≠ 0) (hk : x.toNat = 1) (t0 : textErr r = 0) (t1 : textErr (textRest r) = 0) (t2 : textErr (textRest (textRest r)) = 0) (hf : framedB ⟨(x.toNat : Int), textOf r, textOf (textRest r), textOf (textRest (textRest r)), ⟨0, 0, 0, ⟨#[]⟩, []⟩, 0, 0, 0⟩ = true) (hv : decVal6 (textRest (textRest (textRest r))) = none) :
    Calls Tryz.prog 39 #[.pointer (some ⟨db, 0, none⟩)] w fun e w' => EdR w db rb lo B sl l (x :: r) e w' := by
  have hf1 : framedB ⟨1, textOf r, textOf (textRest r), textOf (textRest (textRest r)), ⟨0, 0, 0, ⟨#[]⟩, []⟩, 0, 0, 0⟩ = true := by
    have h := hf
    rw [hk] at h
    exact h
  have HF := hide (show decEv6 (x :: r) = none by
    simp only [decEv6, decHead6]
    rw [if_pos t0, if_pos hk, if_pos t1, if_pos t2]
    simp only [hf1, if_true, hv])
  have hdb : db < w.heap.size := (Array.getElem?_eq_some_iff.1 hD.blk).1
  obtain ⟨W, hW⟩ : ∃ W, w.alloc (.cells (evCells zeD (.slice none 0 0)) 48) = W := ⟨_, rfl⟩
  have bW : Below w.heap.size w W := by rw [← hW]; exact alloc_v (Below.refl _ _) _
  have zW : W.heap.size = w.heap.size + 1 := by rw [← hW]; simp
  have eW : W.heap[w.heap.size]? = some (.cells (evCells zeD (.slice none 0 0)) 48 (0, 0)) := by rw [← hW]; exact World.alloc_heap_new w _
  have hDW := hD.same (w' := W) (fun k hk => bW.block k (by omega))
  have d1 := cells_at hDW.blk 1 _ rfl
  have HU8 := hide (rU8_some W rb lo x r hDW.rd)
  have hwr : IntKind.i64.wrap (x.toNat : Int) = (x.toNat : Int) := by have := x.toNat_lt; rw [IntKind.wrap_i64]; omega
  have hk1 : ((x.toNat : Int) == 1) = true := by simp; omega
  have hrl : r.length ≤ 1000000000000 := by
    obtain ⟨p', hp', he⟩ := hD.at'
    have := congrArg List.length he
    rw [List.length_drop] at this
    simp at this
    omega
  have HRL := hide hrl
  have HST := hide (fun (w1 V : World) (r1 : Rd w1 rb lo r) (g1 : W.grownBy w1 (some rb)) (bV : Below w1.heap.size w1 V) (cs : List Value) (eV : V.heap[w1.heap.size]? = some (.cells ⟨cs⟩ 48 (0, 0))) => dev_start w W w1 V db rb lo B sl l x r hD hl hT ho bW zW eW r1 g1 bV cs eV)
  have HK := hide hk
  clear hD hDW eW hT ho hl hrl hk
  go_enter Tryz.func39, Tryz.ntmps39
  go_wp2_with (first
    | (go_at_call 62; refine HU8.out.mono ?_; clear HU8; rintro e w1 ⟨rfl, r1, g1⟩; obtain ⟨V, hV⟩ : ∃ V, w1.alloc (.cells #[.int .i64 x.toNat, .string ⟨#[]⟩, .string ⟨#[]⟩, .string ⟨#[]⟩, .int .i64 0, .int .i64 0, .int .i64 0, .string ⟨#[]⟩, .slice none 0 0, .int .i64 0, .int .i64 0, .int .i64 0] 48) = V := ⟨_, rfl⟩; have bV : Below w1.heap.size w1 V := (by rw [← hV]; exact alloc_v (Below.refl _ _) _); have eV : V.heap[w1.heap.size]? = some (.cells #[.int .i64 x.toNat, .string ⟨#[]⟩, .string ⟨#[]⟩, .string ⟨#[]⟩, .int .i64 0, .int .i64 0, .int .i64 0, .string ⟨#[]⟩, .slice none 0 0, .int .i64 0, .int .i64 0, .int .i64 0] 48 (0, 0)) := (by rw [← hV]; exact World.alloc_heap_new w1 _); have S0 := HST.out w1 V r1 g1 bV _ eV; have HN0 := hide (S0.text 0 (by rw [t0]; rfl)); have dd1 := cells_at S0.dec.blk 1 _ rfl; clear r1 g1 bV eV S0 HST; subst hV)
    | (go_at_call 61; refine (sure8_6 _ _).mono ?_; rintro e w2 ⟨rfl, rfl⟩)
    | (go_at_call 64; refine HN0.out.mono ?_; clear HN0; rintro e u0 ⟨rfl, T0⟩; have a0 := cells_at T0.ev 1 _ rfl; have az0 := frozen_at T0.ev 1; have R0 := T0.set 1 (.string (bsN (textOf r))); simp only [List.set_cons_succ, List.set_cons_zero] at R0; have kk0 := cells_at R0.ev 0 _ rfl; have dq0 := cells_at R0.dec.blk 1 _ rfl; have HN1 := hide (R0.text 0 (by rw [t1]; rfl)); clear T0 R0)
    | (go_at_call 64; refine HN1.out.mono ?_; clear HN1; rintro e u1 ⟨rfl, T1⟩; have a1 := cells_at T1.ev 2 _ rfl; have az1 := frozen_at T1.ev 2; have R1 := T1.set 2 (.string (bsN (textOf (textRest r)))); simp only [List.set_cons_succ, List.set_cons_zero] at R1; have kk1 := cells_at R1.ev 0 _ rfl; have dq1 := cells_at R1.dec.blk 1 _ rfl; have HN2 := hide (R1.text 0 (by rw [t2]; rfl)); clear T1 R1)
    | (go_at_call 64; refine HN2.out.mono ?_; clear HN2; rintro e u2 ⟨rfl, T2⟩; have a2 := cells_at T2.ev 3 _ rfl; have az2 := frozen_at T2.ev 3; have R2 := T2.set 3 (.string (bsN (textOf (textRest (textRest r))))); simp only [List.set_cons_succ, List.set_cons_zero] at R2; have kk2 := cells_at R2.ev 0 _ rfl; have dq2 := cells_at R2.dec.blk 1 _ rfl; have y0 := cells_at R2.ev 0 _ rfl; have y1 := cells_at R2.ev 1 _ rfl; have y2 := cells_at R2.ev 2 _ rfl; have y3 := cells_at R2.ev 3 _ rfl; have y4 := cells_at R2.ev 4 _ rfl; have y5 := cells_at R2.ev 5 _ rfl; have y6 := cells_at R2.ev 6 _ rfl; have y7 := cells_at R2.ev 7 _ rfl; have y8 := cells_at R2.ev 8 _ rfl; have y9 := cells_at R2.ev 9 _ rfl; have y10 := cells_at R2.ev 10 _ rfl; have y11 := cells_at R2.ev 11 _ rfl; have RS := hide R2; clear T2 R2)
    | (go_at_call 63; refine (sureS_6 _ _).mono ?_; rintro e w2 ⟨rfl, rfl⟩)
    | (go_at_call 13; refine (frame_go (e := ⟨(x.toNat : Int), textOf r, textOf (textRest r), textOf (textRest (textRest r)), ⟨0, 0, 0, ⟨#[]⟩, []⟩, 0, 0, 0⟩) hf ⟨by have := textOf_len r; have := HRL.out; simp only; omega, by have := textOf_len (textRest r); have := textRest_len r; have := HRL.out; simp only; omega, by have := textOf_len (textRest (textRest r)); have := textRest_len (textRest r); have := textRest_len r; have := HRL.out; simp only; omega, zV_ok⟩ _ RS.out.tabs).mono ?_; rintro e w7 ⟨rfl, b7⟩; have S7 := RS.out.below b7; have d7 := cells_at S7.dec.blk 1 _ rfl; have HV := hide (S7.noValue hv); have LE := hide (Array.getElem?_eq_some_iff.1 S7.ev).1; have LG := hide S7.gr.size; clear b7 S7 RS)
    | (go_at_call 65; refine HV.out.mono ?_; clear HV; rintro e u9 ⟨rfl, g9⟩; have G9 := hide g9; clear g9))
  exact ⟨rfl, EdR.of_no HF.out G9.out rfl⟩

set_option maxRecDepth 100000 in
set_option maxHeartbeats 2000000 in
theorem dev_i_ok (w : World) (db rb lo B : Nat) (sl : Value) (l : List UInt8) (x : UInt8) (r : List UInt8) (hD : EDAt w db rb lo B sl l (x :: r)) (hl : l.length ≤ 1000000000000) (hT : Tabs w) (ho : rb ≠ 2 ∧ rb ≠ 0) (hk : x.toNat = 1) (t0 : textErr r = 0) (t1 : textErr (textRest r) = 0) (t2 : textErr (textRest (textRest r)) = 0) (hf : framedB ⟨(x.toNat : Int), textOf r, textOf (textRest r), textOf (textRest (textRest r)), ⟨0, 0, 0, ⟨#[]⟩, []⟩, 0, 0, 0⟩ = true) (v : Vl) (p : Nat) (hv : decVal6 (textRest (textRest (textRest r))) = some (v, p)) :
    Calls Tryz.prog 39 #[.pointer (some ⟨db, 0, none⟩)] w fun e w' => EdR w db rb lo B sl l (x :: r) e w' := by
  have hf1 : framedB ⟨1, textOf r, textOf (textRest r), textOf (textRest (textRest r)), ⟨0, 0, 0, ⟨#[]⟩, []⟩, 0, 0, 0⟩ = true := by
    have h := hf
    rw [hk] at h
    exact h
  have HF := hide (show decEv6 (x :: r) = some (⟨1, textOf r, textOf (textRest r), textOf (textRest (textRest r)), v, 0, 0, 0⟩, (textRest (textRest (textRest r))).drop p) by
    simp only [decEv6, decHead6]
    rw [if_pos t0, if_pos hk, if_pos t1, if_pos t2]
    simp only [hf1, if_true, hv])
  have hdb : db < w.heap.size := (Array.getElem?_eq_some_iff.1 hD.blk).1
  obtain ⟨W, hW⟩ : ∃ W, w.alloc (.cells (evCells zeD (.slice none 0 0)) 48) = W := ⟨_, rfl⟩
  have bW : Below w.heap.size w W := by rw [← hW]; exact alloc_v (Below.refl _ _) _
  have zW : W.heap.size = w.heap.size + 1 := by rw [← hW]; simp
  have eW : W.heap[w.heap.size]? = some (.cells (evCells zeD (.slice none 0 0)) 48 (0, 0)) := by rw [← hW]; exact World.alloc_heap_new w _
  have hDW := hD.same (w' := W) (fun k hk => bW.block k (by omega))
  have d1 := cells_at hDW.blk 1 _ rfl
  have HU8 := hide (rU8_some W rb lo x r hDW.rd)
  have hwr : IntKind.i64.wrap (x.toNat : Int) = (x.toNat : Int) := by have := x.toNat_lt; rw [IntKind.wrap_i64]; omega
  have hk1 : ((x.toNat : Int) == 1) = true := by simp; omega
  have hrl : r.length ≤ 1000000000000 := by
    obtain ⟨p', hp', he⟩ := hD.at'
    have := congrArg List.length he
    rw [List.length_drop] at this
    simp at this
    omega
  have HRL := hide hrl
  have HST := hide (fun (w1 V : World) (r1 : Rd w1 rb lo r) (g1 : W.grownBy w1 (some rb)) (bV : Below w1.heap.size w1 V) (cs : List Value) (eV : V.heap[w1.heap.size]? = some (.cells ⟨cs⟩ 48 (0, 0))) => dev_start w W w1 V db rb lo B sl l x r hD hl hT ho bW zW eW r1 g1 bV cs eV)
  have HK := hide hk
  clear hD hDW eW hT ho hl hrl hk
  go_enter Tryz.func39, Tryz.ntmps39
  obtain ⟨vk, vi, vm, vt, vl⟩ := v
  go_wp2_with (first
    | (go_at_call 62; refine HU8.out.mono ?_; clear HU8; rintro e w1 ⟨rfl, r1, g1⟩; obtain ⟨V, hV⟩ : ∃ V, w1.alloc (.cells #[.int .i64 x.toNat, .string ⟨#[]⟩, .string ⟨#[]⟩, .string ⟨#[]⟩, .int .i64 0, .int .i64 0, .int .i64 0, .string ⟨#[]⟩, .slice none 0 0, .int .i64 0, .int .i64 0, .int .i64 0] 48) = V := ⟨_, rfl⟩; have bV : Below w1.heap.size w1 V := (by rw [← hV]; exact alloc_v (Below.refl _ _) _); have eV : V.heap[w1.heap.size]? = some (.cells #[.int .i64 x.toNat, .string ⟨#[]⟩, .string ⟨#[]⟩, .string ⟨#[]⟩, .int .i64 0, .int .i64 0, .int .i64 0, .string ⟨#[]⟩, .slice none 0 0, .int .i64 0, .int .i64 0, .int .i64 0] 48 (0, 0)) := (by rw [← hV]; exact World.alloc_heap_new w1 _); have S0 := HST.out w1 V r1 g1 bV _ eV; have HN0 := hide (S0.text 0 (by rw [t0]; rfl)); have dd1 := cells_at S0.dec.blk 1 _ rfl; clear r1 g1 bV eV S0 HST; subst hV)
    | (go_at_call 61; refine (sure8_6 _ _).mono ?_; rintro e w2 ⟨rfl, rfl⟩)
    | (go_at_call 64; refine HN0.out.mono ?_; clear HN0; rintro e u0 ⟨rfl, T0⟩; have a0 := cells_at T0.ev 1 _ rfl; have az0 := frozen_at T0.ev 1; have R0 := T0.set 1 (.string (bsN (textOf r))); simp only [List.set_cons_succ, List.set_cons_zero] at R0; have kk0 := cells_at R0.ev 0 _ rfl; have dq0 := cells_at R0.dec.blk 1 _ rfl; have HN1 := hide (R0.text 0 (by rw [t1]; rfl)); clear T0 R0)
    | (go_at_call 64; refine HN1.out.mono ?_; clear HN1; rintro e u1 ⟨rfl, T1⟩; have a1 := cells_at T1.ev 2 _ rfl; have az1 := frozen_at T1.ev 2; have R1 := T1.set 2 (.string (bsN (textOf (textRest r)))); simp only [List.set_cons_succ, List.set_cons_zero] at R1; have kk1 := cells_at R1.ev 0 _ rfl; have dq1 := cells_at R1.dec.blk 1 _ rfl; have HN2 := hide (R1.text 0 (by rw [t2]; rfl)); clear T1 R1)
    | (go_at_call 64; refine HN2.out.mono ?_; clear HN2; rintro e u2 ⟨rfl, T2⟩; have a2 := cells_at T2.ev 3 _ rfl; have az2 := frozen_at T2.ev 3; have R2 := T2.set 3 (.string (bsN (textOf (textRest (textRest r))))); simp only [List.set_cons_succ, List.set_cons_zero] at R2; have kk2 := cells_at R2.ev 0 _ rfl; have dq2 := cells_at R2.dec.blk 1 _ rfl; have y0 := cells_at R2.ev 0 _ rfl; have y1 := cells_at R2.ev 1 _ rfl; have y2 := cells_at R2.ev 2 _ rfl; have y3 := cells_at R2.ev 3 _ rfl; have y4 := cells_at R2.ev 4 _ rfl; have y5 := cells_at R2.ev 5 _ rfl; have y6 := cells_at R2.ev 6 _ rfl; have y7 := cells_at R2.ev 7 _ rfl; have y8 := cells_at R2.ev 8 _ rfl; have y9 := cells_at R2.ev 9 _ rfl; have y10 := cells_at R2.ev 10 _ rfl; have y11 := cells_at R2.ev 11 _ rfl; have RS := hide R2; clear T2 R2)
    | (go_at_call 63; refine (sureS_6 _ _).mono ?_; rintro e w2 ⟨rfl, rfl⟩)
    | (go_at_call 13; refine (frame_go (e := ⟨(x.toNat : Int), textOf r, textOf (textRest r), textOf (textRest (textRest r)), ⟨0, 0, 0, ⟨#[]⟩, []⟩, 0, 0, 0⟩) hf ⟨by have := textOf_len r; have := HRL.out; simp only; omega, by have := textOf_len (textRest r); have := textRest_len r; have := HRL.out; simp only; omega, by have := textOf_len (textRest (textRest r)); have := textRest_len (textRest r); have := textRest_len r; have := HRL.out; simp only; omega, zV_ok⟩ _ RS.out.tabs).mono ?_; rintro e w7 ⟨rfl, b7⟩; have S7 := RS.out.below b7; have d7 := cells_at S7.dec.blk 1 _ rfl; have HV := hide (S7.value hv); have LE := hide (Array.getElem?_eq_some_iff.1 S7.ev).1; have LG := hide S7.gr.size; clear b7 S7 RS)
    | (go_at_call 65; refine HV.out.mono ?_; clear HV; rintro e u8 ⟨⟨s', rfl, i8⟩, g8, T8⟩; obtain ⟨sa, sc, rfl, _⟩ := i8.len; have a4 := cells_at T8.ev 4 _ rfl; have az4 := frozen_at T8.ev 4; have a5 := cells_at T8.ev 5 _ rfl; have az5 := frozen_at T8.ev 5; have a6 := cells_at T8.ev 6 _ rfl; have az6 := frozen_at T8.ev 6; have a7 := cells_at T8.ev 7 _ rfl; have az7 := frozen_at T8.ev 7; have a8 := cells_at T8.ev 8 _ rfl; have az8 := frozen_at T8.ev 8; have Q0 := T8.set 4 (.int .i64 vk); have Q1 := Q0.set 5 (.int .i64 vi); have Q2 := Q1.set 6 (.int .i64 vm); have Q3 := Q2.set 7 (.string vt); have Q4 := Q3.set 8 (.slice sa vl.length sc); simp only [List.set_cons_succ, List.set_cons_zero] at Q4; obtain ⟨Y, hY⟩ : ∃ Y, (((((u8.setCell ⟨w1.heap.size, 4, none⟩ (.int .i64 vk)).setCell ⟨w1.heap.size, 5, none⟩ (.int .i64 vi)).setCell ⟨w1.heap.size, 6, none⟩ (.int .i64 vm)).setCell ⟨w1.heap.size, 7, none⟩ (.string vt)).setCell ⟨w1.heap.size, 8, none⟩ (.slice sa vl.length sc)) = Y := ⟨_, rfl⟩; rw [hY] at Q4; have z0 := cells_at Q4.ev 0 _ rfl; have z1 := cells_at Q4.ev 1 _ rfl; have z2 := cells_at Q4.ev 2 _ rfl; have z3 := cells_at Q4.ev 3 _ rfl; have z4 := cells_at Q4.ev 4 _ rfl; have z5 := cells_at Q4.ev 5 _ rfl; have z6 := cells_at Q4.ev 6 _ rfl; have z7 := cells_at Q4.ev 7 _ rfl; have z8 := cells_at Q4.ev 8 _ rfl; have z9 := cells_at Q4.ev 9 _ rfl; have z10 := cells_at Q4.ev 10 _ rfl; have z11 := cells_at Q4.ev 11 _ rfl; have r0 := cells_at Q4.res 0 _ rfl; have rz0 := frozen_at Q4.res 0; have r1 := cells_at Q4.res 1 _ rfl; have rz1 := frozen_at Q4.res 1; have r2 := cells_at Q4.res 2 _ rfl; have rz2 := frozen_at Q4.res 2; have r3 := cells_at Q4.res 3 _ rfl; have rz3 := frozen_at Q4.res 3; have r4 := cells_at Q4.res 4 _ rfl; have rz4 := frozen_at Q4.res 4; have r5 := cells_at Q4.res 5 _ rfl; have rz5 := frozen_at Q4.res 5; have r6 := cells_at Q4.res 6 _ rfl; have rz6 := frozen_at Q4.res 6; have r7 := cells_at Q4.res 7 _ rfl; have rz7 := frozen_at Q4.res 7; have r8 := cells_at Q4.res 8 _ rfl; have rz8 := frozen_at Q4.res 8; have r9 := cells_at Q4.res 9 _ rfl; have rz9 := frozen_at Q4.res 9; have r10 := cells_at Q4.res 10 _ rfl; have rz10 := frozen_at Q4.res 10; have r11 := cells_at Q4.res 11 _ rfl; have rz11 := frozen_at Q4.res 11; have QQ := hide (And.intro Q4 (And.intro i8 (And.intro g8 hY))); clear T8 i8 g8 Q0 Q1 Q2 Q3 Q4))
  have hkk := HK.out
  obtain ⟨e1, e2, e3, e4, e5⟩ := dev_end w Y _ w1.heap.size db rb lo B sl l _ _ QQ.out.1 ⟨(x.toNat : Int), textOf r, textOf (textRest r), textOf (textRest (textRest r)), ⟨vk, vi, vm, vt, vl⟩, 0, 0, 0⟩ (.slice sa vl.length sc) rfl
  refine bodyPost_ret (results_cell_row rfl _ _ w.heap.size _ _ _ _ rfl e1 Tryz.underlying48 rfl infoEvD) rfl ?_
  have hE := LE.out
  have hG := LG.out
  have hwE := QQ.out.1.hE
  have hrb3 := QQ.out.1.dec.hrb
  have h5 : Y.heap.size = u8.heap.size := by rw [← QQ.out.2.2.2]; simp [World.setCell]
  refine EdR.of_ok (by rw [HF.out]) e2 (.slice sa vl.length sc) (by rw [hkk]; rfl) (QQ.out.2.1.kept (fun b o hb => ?_) (fun b hb => ?_)) e5
  · obtain ⟨hb1, hb2⟩ := hb
    have nE : b ≠ w1.heap.size := by omega
    refine World.cell?_of_block ((e3 b (by omega)).trans ?_)
    rw [← QQ.out.2.2.2, Below.heap_setCell _ _ _ _ nE, Below.heap_setCell _ _ _ _ nE, Below.heap_setCell _ _ _ _ nE, Below.heap_setCell _ _ _ _ nE, Below.heap_setCell _ _ _ _ nE]
  · obtain ⟨hb1, hb2⟩ := hb
    exact ⟨by omega, Nat.lt_of_lt_of_eq (by omega) e4.symm⟩

set_option maxRecDepth 100000 in
set_option maxHeartbeats 2000000 in
theorem dev_r_t0 (w : World) (db rb lo B : Nat) (sl : Value) (l : List UInt8) (x : UInt8) (r : List UInt8) (hD : EDAt w db rb lo B sl l (x :: r)) (hl : l.length ≤ 1000000000000) (hT : Tabs w) (ho : rb ≠ 2 ∧ rb ≠ 0) (hk : ¬ x.toNat = 1) (t0 : ¬ textErr r = 0) :
    Calls Tryz.prog 39 #[.pointer (some ⟨db, 0, none⟩)] w fun e w' => EdR w db rb lo B sl l (x :: r) e w' := by
  have HF := hide (show decEv6 (x :: r) = none by
    simp only [decEv6, decHead6]
    rw [if_neg t0])
  have hdb : db < w.heap.size := (Array.getElem?_eq_some_iff.1 hD.blk).1
  obtain ⟨W, hW⟩ : ∃ W, w.alloc (.cells (evCells zeD (.slice none 0 0)) 48) = W := ⟨_, rfl⟩
  have bW : Below w.heap.size w W := by rw [← hW]; exact alloc_v (Below.refl _ _) _
  have zW : W.heap.size = w.heap.size + 1 := by rw [← hW]; simp
  have eW : W.heap[w.heap.size]? = some (.cells (evCells zeD (.slice none 0 0)) 48 (0, 0)) := by rw [← hW]; exact World.alloc_heap_new w _
  have hDW := hD.same (w' := W) (fun k hk => bW.block k (by omega))
  have d1 := cells_at hDW.blk 1 _ rfl
  have HU8 := hide (rU8_some W rb lo x r hDW.rd)
  have hwr : IntKind.i64.wrap (x.toNat : Int) = (x.toNat : Int) := by have := x.toNat_lt; rw [IntKind.wrap_i64]; omega
  have hk1 : ((x.toNat : Int) == 1) = false := by simp; omega
  have hrl : r.length ≤ 1000000000000 := by
    obtain ⟨p', hp', he⟩ := hD.at'
    have := congrArg List.length he
    rw [List.length_drop] at this
    simp at this
    omega
  have HRL := hide hrl
  have HST := hide (fun (w1 V : World) (r1 : Rd w1 rb lo r) (g1 : W.grownBy w1 (some rb)) (bV : Below w1.heap.size w1 V) (cs : List Value) (eV : V.heap[w1.heap.size]? = some (.cells ⟨cs⟩ 48 (0, 0))) => dev_start w W w1 V db rb lo B sl l x r hD hl hT ho bW zW eW r1 g1 bV cs eV)
  have HK := hide hk
  clear hD hDW eW hT ho hl hrl hk
  go_enter Tryz.func39, Tryz.ntmps39
  go_wp2_with (first
    | (go_at_call 62; refine HU8.out.mono ?_; clear HU8; rintro e w1 ⟨rfl, r1, g1⟩; obtain ⟨V, hV⟩ : ∃ V, w1.alloc (.cells #[.int .i64 x.toNat, .string ⟨#[]⟩, .string ⟨#[]⟩, .string ⟨#[]⟩, .int .i64 0, .int .i64 0, .int .i64 0, .string ⟨#[]⟩, .slice none 0 0, .int .i64 0, .int .i64 0, .int .i64 0] 48) = V := ⟨_, rfl⟩; have bV : Below w1.heap.size w1 V := (by rw [← hV]; exact alloc_v (Below.refl _ _) _); have eV : V.heap[w1.heap.size]? = some (.cells #[.int .i64 x.toNat, .string ⟨#[]⟩, .string ⟨#[]⟩, .string ⟨#[]⟩, .int .i64 0, .int .i64 0, .int .i64 0, .string ⟨#[]⟩, .slice none 0 0, .int .i64 0, .int .i64 0, .int .i64 0] 48 (0, 0)) := (by rw [← hV]; exact World.alloc_heap_new w1 _); have S0 := HST.out w1 V r1 g1 bV _ eV; have HN0 := hide (S0.text _ rfl); have dd1 := cells_at S0.dec.blk 1 _ rfl; clear r1 g1 bV eV S0 HST; subst hV)
    | (go_at_call 61; refine (sure8_6 _ _).mono ?_; rintro e w2 ⟨rfl, rfl⟩)
    | (go_at_call 64; refine HN0.out.mono ?_; clear HN0; rintro e u0 ⟨rfl, T0⟩; have G9 := hide T0.gr; clear T0)
    | (go_at_call 63; first | (refine (sureS_6no _ _ (by exact fun h => t0 (by exact_mod_cast h)) _).mono ?_; rintro e w2 ⟨rfl, rfl⟩) | (refine (sureS_6 _ _).mono ?_; rintro e w2 ⟨rfl, rfl⟩)))
  exact ⟨rfl, EdR.of_no HF.out G9.out rfl⟩

set_option maxRecDepth 100000 in
set_option maxHeartbeats 2000000 in
theorem dev_r_fr (w : World) (db rb lo B : Nat) (sl : Value) (l : List UInt8) (x : UInt8) (r : List UInt8) (hD : EDAt w db rb lo B sl l (x :: r)) (hl : l.length ≤ 1000000000000) (hT : Tabs w) (ho : rb ≠ 2 ∧ rb ≠ 0) (hk : ¬ x.toNat = 1) (t0 : textErr r = 0) (hf : framedB ⟨(x.toNat : Int), textOf r, [], [], ⟨0, 0, 0, ⟨#[]⟩, []⟩, 0, 0, 0⟩ = false) :
    Calls Tryz.prog 39 #[.pointer (some ⟨db, 0, none⟩)] w fun e w' => EdR w db rb lo B sl l (x :: r) e w' := by
  have HF := hide (show decEv6 (x :: r) = none by
    simp only [decEv6, decHead6]
    rw [if_pos t0, if_neg hk]
    simp only [hf, Bool.false_eq_true, if_false])
  have hdb : db < w.heap.size := (Array.getElem?_eq_some_iff.1 hD.blk).1
  obtain ⟨W, hW⟩ : ∃ W, w.alloc (.cells (evCells zeD (.slice none 0 0)) 48) = W := ⟨_, rfl⟩
  have bW : Below w.heap.size w W := by rw [← hW]; exact alloc_v (Below.refl _ _) _
  have zW : W.heap.size = w.heap.size + 1 := by rw [← hW]; simp
  have eW : W.heap[w.heap.size]? = some (.cells (evCells zeD (.slice none 0 0)) 48 (0, 0)) := by rw [← hW]; exact World.alloc_heap_new w _
  have hDW := hD.same (w' := W) (fun k hk => bW.block k (by omega))
  have d1 := cells_at hDW.blk 1 _ rfl
  have HU8 := hide (rU8_some W rb lo x r hDW.rd)
  have hwr : IntKind.i64.wrap (x.toNat : Int) = (x.toNat : Int) := by have := x.toNat_lt; rw [IntKind.wrap_i64]; omega
  have hk1 : ((x.toNat : Int) == 1) = false := by simp; omega
  have hrl : r.length ≤ 1000000000000 := by
    obtain ⟨p', hp', he⟩ := hD.at'
    have := congrArg List.length he
    rw [List.length_drop] at this
    simp at this
    omega
  have HRL := hide hrl
  have HST := hide (fun (w1 V : World) (r1 : Rd w1 rb lo r) (g1 : W.grownBy w1 (some rb)) (bV : Below w1.heap.size w1 V) (cs : List Value) (eV : V.heap[w1.heap.size]? = some (.cells ⟨cs⟩ 48 (0, 0))) => dev_start w W w1 V db rb lo B sl l x r hD hl hT ho bW zW eW r1 g1 bV cs eV)
  have HK := hide hk
  clear hD hDW eW hT ho hl hrl hk
  go_enter Tryz.func39, Tryz.ntmps39
  go_wp2_with (first
    | (go_at_call 62; refine HU8.out.mono ?_; clear HU8; rintro e w1 ⟨rfl, r1, g1⟩; obtain ⟨V, hV⟩ : ∃ V, w1.alloc (.cells #[.int .i64 x.toNat, .string ⟨#[]⟩, .string ⟨#[]⟩, .string ⟨#[]⟩, .int .i64 0, .int .i64 0, .int .i64 0, .string ⟨#[]⟩, .slice none 0 0, .int .i64 0, .int .i64 0, .int .i64 0] 48) = V := ⟨_, rfl⟩; have bV : Below w1.heap.size w1 V := (by rw [← hV]; exact alloc_v (Below.refl _ _) _); have eV : V.heap[w1.heap.size]? = some (.cells #[.int .i64 x.toNat, .string ⟨#[]⟩, .string ⟨#[]⟩, .string ⟨#[]⟩, .int .i64 0, .int .i64 0, .int .i64 0, .string ⟨#[]⟩, .slice none 0 0, .int .i64 0, .int .i64 0, .int .i64 0] 48 (0, 0)) := (by rw [← hV]; exact World.alloc_heap_new w1 _); have S0 := HST.out w1 V r1 g1 bV _ eV; have HN0 := hide (S0.text 0 (by rw [t0]; rfl)); have dd1 := cells_at S0.dec.blk 1 _ rfl; clear r1 g1 bV eV S0 HST; subst hV)
    | (go_at_call 61; refine (sure8_6 _ _).mono ?_; rintro e w2 ⟨rfl, rfl⟩)
    | (go_at_call 64; refine HN0.out.mono ?_; clear HN0; rintro e u0 ⟨rfl, T0⟩; have a0 := cells_at T0.ev 1 _ rfl; have az0 := frozen_at T0.ev 1; have R0 := T0.set 1 (.string (bsN (textOf r))); simp only [List.set_cons_succ, List.set_cons_zero] at R0; have kk0 := cells_at R0.ev 0 _ rfl; have dq0 := cells_at R0.dec.blk 1 _ rfl; have y0 := cells_at R0.ev 0 _ rfl; have y1 := cells_at R0.ev 1 _ rfl; have y2 := cells_at R0.ev 2 _ rfl; have y3 := cells_at R0.ev 3 _ rfl; have y4 := cells_at R0.ev 4 _ rfl; have y5 := cells_at R0.ev 5 _ rfl; have y6 := cells_at R0.ev 6 _ rfl; have y7 := cells_at R0.ev 7 _ rfl; have y8 := cells_at R0.ev 8 _ rfl; have y9 := cells_at R0.ev 9 _ rfl; have y10 := cells_at R0.ev 10 _ rfl; have y11 := cells_at R0.ev 11 _ rfl; have RS := hide R0; clear T0 R0)
    | (go_at_call 63; refine (sureS_6 _ _).mono ?_; rintro e w2 ⟨rfl, rfl⟩)
    | (go_at_call 13; refine (frame_go (e := ⟨(x.toNat : Int), textOf r, [], [], ⟨0, 0, 0, ⟨#[]⟩, []⟩, 0, 0, 0⟩) hf ⟨by have := textOf_len r; have := HRL.out; simp only; omega, by simp, by simp, zV_ok⟩ _ RS.out.tabs).mono ?_; rintro e w7 ⟨rfl, b7⟩; have G9 := hide (RS.out.below b7).gr; clear b7))
  exact ⟨rfl, EdR.of_no HF.out G9.out rfl⟩

set_option maxRecDepth 100000 in
set_option maxHeartbeats 2000000 in
theorem dev_r_nv (w : World) (db rb lo B : Nat) (sl : Value) (l : List UInt8) (x : UInt8) (r : List UInt8) (hD : EDAt w db rb lo B sl l (x :: r)) (hl : l.length ≤ 1000000000000) (hT : Tabs w) (ho : rb ≠ 2 ∧ rb ≠ 0) (hk : ¬ x.toNat = 1) (t0 : textErr r = 0) (hf : framedB ⟨(x.toNat : Int), textOf r, [], [], ⟨0, 0, 0, ⟨#[]⟩, []⟩, 0, 0, 0⟩ = true) (hv : decVal6 (textRest r) = none) :
    Calls Tryz.prog 39 #[.pointer (some ⟨db, 0, none⟩)] w fun e w' => EdR w db rb lo B sl l (x :: r) e w' := by
  have HF := hide (show decEv6 (x :: r) = none by
    simp only [decEv6, decHead6]
    rw [if_pos t0, if_neg hk]
    simp only [hf, if_true, hv])
  have hdb : db < w.heap.size := (Array.getElem?_eq_some_iff.1 hD.blk).1
  obtain ⟨W, hW⟩ : ∃ W, w.alloc (.cells (evCells zeD (.slice none 0 0)) 48) = W := ⟨_, rfl⟩
  have bW : Below w.heap.size w W := by rw [← hW]; exact alloc_v (Below.refl _ _) _
  have zW : W.heap.size = w.heap.size + 1 := by rw [← hW]; simp
  have eW : W.heap[w.heap.size]? = some (.cells (evCells zeD (.slice none 0 0)) 48 (0, 0)) := by rw [← hW]; exact World.alloc_heap_new w _
  have hDW := hD.same (w' := W) (fun k hk => bW.block k (by omega))
  have d1 := cells_at hDW.blk 1 _ rfl
  have HU8 := hide (rU8_some W rb lo x r hDW.rd)
  have hwr : IntKind.i64.wrap (x.toNat : Int) = (x.toNat : Int) := by have := x.toNat_lt; rw [IntKind.wrap_i64]; omega
  have hk1 : ((x.toNat : Int) == 1) = false := by simp; omega
  have hrl : r.length ≤ 1000000000000 := by
    obtain ⟨p', hp', he⟩ := hD.at'
    have := congrArg List.length he
    rw [List.length_drop] at this
    simp at this
    omega
  have HRL := hide hrl
  have HST := hide (fun (w1 V : World) (r1 : Rd w1 rb lo r) (g1 : W.grownBy w1 (some rb)) (bV : Below w1.heap.size w1 V) (cs : List Value) (eV : V.heap[w1.heap.size]? = some (.cells ⟨cs⟩ 48 (0, 0))) => dev_start w W w1 V db rb lo B sl l x r hD hl hT ho bW zW eW r1 g1 bV cs eV)
  have HK := hide hk
  clear hD hDW eW hT ho hl hrl hk
  go_enter Tryz.func39, Tryz.ntmps39
  go_wp2_with (first
    | (go_at_call 62; refine HU8.out.mono ?_; clear HU8; rintro e w1 ⟨rfl, r1, g1⟩; obtain ⟨V, hV⟩ : ∃ V, w1.alloc (.cells #[.int .i64 x.toNat, .string ⟨#[]⟩, .string ⟨#[]⟩, .string ⟨#[]⟩, .int .i64 0, .int .i64 0, .int .i64 0, .string ⟨#[]⟩, .slice none 0 0, .int .i64 0, .int .i64 0, .int .i64 0] 48) = V := ⟨_, rfl⟩; have bV : Below w1.heap.size w1 V := (by rw [← hV]; exact alloc_v (Below.refl _ _) _); have eV : V.heap[w1.heap.size]? = some (.cells #[.int .i64 x.toNat, .string ⟨#[]⟩, .string ⟨#[]⟩, .string ⟨#[]⟩, .int .i64 0, .int .i64 0, .int .i64 0, .string ⟨#[]⟩, .slice none 0 0, .int .i64 0, .int .i64 0, .int .i64 0] 48 (0, 0)) := (by rw [← hV]; exact World.alloc_heap_new w1 _); have S0 := HST.out w1 V r1 g1 bV _ eV; have HN0 := hide (S0.text 0 (by rw [t0]; rfl)); have dd1 := cells_at S0.dec.blk 1 _ rfl; clear r1 g1 bV eV S0 HST; subst hV)
    | (go_at_call 61; refine (sure8_6 _ _).mono ?_; rintro e w2 ⟨rfl, rfl⟩)
    | (go_at_call 64; refine HN0.out.mono ?_; clear HN0; rintro e u0 ⟨rfl, T0⟩; have a0 := cells_at T0.ev 1 _ rfl; have az0 := frozen_at T0.ev 1; have R0 := T0.set 1 (.string (bsN (textOf r))); simp only [List.set_cons_succ, List.set_cons_zero] at R0; have kk0 := cells_at R0.ev 0 _ rfl; have dq0 := cells_at R0.dec.blk 1 _ rfl; have y0 := cells_at R0.ev 0 _ rfl; have y1 := cells_at R0.ev 1 _ rfl; have y2 := cells_at R0.ev 2 _ rfl; have y3 := cells_at R0.ev 3 _ rfl; have y4 := cells_at R0.ev 4 _ rfl; have y5 := cells_at R0.ev 5 _ rfl; have y6 := cells_at R0.ev 6 _ rfl; have y7 := cells_at R0.ev 7 _ rfl; have y8 := cells_at R0.ev 8 _ rfl; have y9 := cells_at R0.ev 9 _ rfl; have y10 := cells_at R0.ev 10 _ rfl; have y11 := cells_at R0.ev 11 _ rfl; have RS := hide R0; clear T0 R0)
    | (go_at_call 63; refine (sureS_6 _ _).mono ?_; rintro e w2 ⟨rfl, rfl⟩)
    | (go_at_call 13; refine (frame_go (e := ⟨(x.toNat : Int), textOf r, [], [], ⟨0, 0, 0, ⟨#[]⟩, []⟩, 0, 0, 0⟩) hf ⟨by have := textOf_len r; have := HRL.out; simp only; omega, by simp, by simp, zV_ok⟩ _ RS.out.tabs).mono ?_; rintro e w7 ⟨rfl, b7⟩; have S7 := RS.out.below b7; have d7 := cells_at S7.dec.blk 1 _ rfl; have HV := hide (S7.noValue hv); have LE := hide (Array.getElem?_eq_some_iff.1 S7.ev).1; have LG := hide S7.gr.size; clear b7 S7 RS)
    | (go_at_call 65; refine HV.out.mono ?_; clear HV; rintro e u9 ⟨rfl, g9⟩; have G9 := hide g9; clear g9))
  exact ⟨rfl, EdR.of_no HF.out G9.out rfl⟩

set_option maxRecDepth 100000 in
set_option maxHeartbeats 2000000 in
theorem dev_r_ok (w : World) (db rb lo B : Nat) (sl : Value) (l : List UInt8) (x : UInt8) (r : List UInt8) (hD : EDAt w db rb lo B sl l (x :: r)) (hl : l.length ≤ 1000000000000) (hT : Tabs w) (ho : rb ≠ 2 ∧ rb ≠ 0) (hk : ¬ x.toNat = 1) (t0 : textErr r = 0) (hf : framedB ⟨(x.toNat : Int), textOf r, [], [], ⟨0, 0, 0, ⟨#[]⟩, []⟩, 0, 0, 0⟩ = true) (v : Vl) (p : Nat) (hv : decVal6 (textRest r) = some (v, p)) :
    Calls Tryz.prog 39 #[.pointer (some ⟨db, 0, none⟩)] w fun e w' => EdR w db rb lo B sl l (x :: r) e w' := by
  have HF := hide (show decEv6 (x :: r) = some (⟨(x.toNat : Int), textOf r, [], [], v, 0, 0, 0⟩, (textRest r).drop p) by
    simp only [decEv6, decHead6]
    rw [if_pos t0, if_neg hk]
    simp only [hf, if_true, hv])
  have hdb : db < w.heap.size := (Array.getElem?_eq_some_iff.1 hD.blk).1
  obtain ⟨W, hW⟩ : ∃ W, w.alloc (.cells (evCells zeD (.slice none 0 0)) 48) = W := ⟨_, rfl⟩
  have bW : Below w.heap.size w W := by rw [← hW]; exact alloc_v (Below.refl _ _) _
  have zW : W.heap.size = w.heap.size + 1 := by rw [← hW]; simp
  have eW : W.heap[w.heap.size]? = some (.cells (evCells zeD (.slice none 0 0)) 48 (0, 0)) := by rw [← hW]; exact World.alloc_heap_new w _
  have hDW := hD.same (w' := W) (fun k hk => bW.block k (by omega))
  have d1 := cells_at hDW.blk 1 _ rfl
  have HU8 := hide (rU8_some W rb lo x r hDW.rd)
  have hwr : IntKind.i64.wrap (x.toNat : Int) = (x.toNat : Int) := by have := x.toNat_lt; rw [IntKind.wrap_i64]; omega
  have hk1 : ((x.toNat : Int) == 1) = false := by simp; omega
  have hrl : r.length ≤ 1000000000000 := by
    obtain ⟨p', hp', he⟩ := hD.at'
    have := congrArg List.length he
    rw [List.length_drop] at this
    simp at this
    omega
  have HRL := hide hrl
  have HST := hide (fun (w1 V : World) (r1 : Rd w1 rb lo r) (g1 : W.grownBy w1 (some rb)) (bV : Below w1.heap.size w1 V) (cs : List Value) (eV : V.heap[w1.heap.size]? = some (.cells ⟨cs⟩ 48 (0, 0))) => dev_start w W w1 V db rb lo B sl l x r hD hl hT ho bW zW eW r1 g1 bV cs eV)
  have HK := hide hk
  clear hD hDW eW hT ho hl hrl hk
  go_enter Tryz.func39, Tryz.ntmps39
  obtain ⟨vk, vi, vm, vt, vl⟩ := v
  go_wp2_with (first
    | (go_at_call 62; refine HU8.out.mono ?_; clear HU8; rintro e w1 ⟨rfl, r1, g1⟩; obtain ⟨V, hV⟩ : ∃ V, w1.alloc (.cells #[.int .i64 x.toNat, .string ⟨#[]⟩, .string ⟨#[]⟩, .string ⟨#[]⟩, .int .i64 0, .int .i64 0, .int .i64 0, .string ⟨#[]⟩, .slice none 0 0, .int .i64 0, .int .i64 0, .int .i64 0] 48) = V := ⟨_, rfl⟩; have bV : Below w1.heap.size w1 V := (by rw [← hV]; exact alloc_v (Below.refl _ _) _); have eV : V.heap[w1.heap.size]? = some (.cells #[.int .i64 x.toNat, .string ⟨#[]⟩, .string ⟨#[]⟩, .string ⟨#[]⟩, .int .i64 0, .int .i64 0, .int .i64 0, .string ⟨#[]⟩, .slice none 0 0, .int .i64 0, .int .i64 0, .int .i64 0] 48 (0, 0)) := (by rw [← hV]; exact World.alloc_heap_new w1 _); have S0 := HST.out w1 V r1 g1 bV _ eV; have HN0 := hide (S0.text 0 (by rw [t0]; rfl)); have dd1 := cells_at S0.dec.blk 1 _ rfl; clear r1 g1 bV eV S0 HST; subst hV)
    | (go_at_call 61; refine (sure8_6 _ _).mono ?_; rintro e w2 ⟨rfl, rfl⟩)
    | (go_at_call 64; refine HN0.out.mono ?_; clear HN0; rintro e u0 ⟨rfl, T0⟩; have a0 := cells_at T0.ev 1 _ rfl; have az0 := frozen_at T0.ev 1; have R0 := T0.set 1 (.string (bsN (textOf r))); simp only [List.set_cons_succ, List.set_cons_zero] at R0; have kk0 := cells_at R0.ev 0 _ rfl; have dq0 := cells_at R0.dec.blk 1 _ rfl; have y0 := cells_at R0.ev 0 _ rfl; have y1 := cells_at R0.ev 1 _ rfl; have y2 := cells_at R0.ev 2 _ rfl; have y3 := cells_at R0.ev 3 _ rfl; have y4 := cells_at R0.ev 4 _ rfl; have y5 := cells_at R0.ev 5 _ rfl; have y6 := cells_at R0.ev 6 _ rfl; have y7 := cells_at R0.ev 7 _ rfl; have y8 := cells_at R0.ev 8 _ rfl; have y9 := cells_at R0.ev 9 _ rfl; have y10 := cells_at R0.ev 10 _ rfl; have y11 := cells_at R0.ev 11 _ rfl; have RS := hide R0; clear T0 R0)
    | (go_at_call 63; refine (sureS_6 _ _).mono ?_; rintro e w2 ⟨rfl, rfl⟩)
    | (go_at_call 13; refine (frame_go (e := ⟨(x.toNat : Int), textOf r, [], [], ⟨0, 0, 0, ⟨#[]⟩, []⟩, 0, 0, 0⟩) hf ⟨by have := textOf_len r; have := HRL.out; simp only; omega, by simp, by simp, zV_ok⟩ _ RS.out.tabs).mono ?_; rintro e w7 ⟨rfl, b7⟩; have S7 := RS.out.below b7; have d7 := cells_at S7.dec.blk 1 _ rfl; have HV := hide (S7.value hv); have LE := hide (Array.getElem?_eq_some_iff.1 S7.ev).1; have LG := hide S7.gr.size; clear b7 S7 RS)
    | (go_at_call 65; refine HV.out.mono ?_; clear HV; rintro e u8 ⟨⟨s', rfl, i8⟩, g8, T8⟩; obtain ⟨sa, sc, rfl, _⟩ := i8.len; have a4 := cells_at T8.ev 4 _ rfl; have az4 := frozen_at T8.ev 4; have a5 := cells_at T8.ev 5 _ rfl; have az5 := frozen_at T8.ev 5; have a6 := cells_at T8.ev 6 _ rfl; have az6 := frozen_at T8.ev 6; have a7 := cells_at T8.ev 7 _ rfl; have az7 := frozen_at T8.ev 7; have a8 := cells_at T8.ev 8 _ rfl; have az8 := frozen_at T8.ev 8; have Q0 := T8.set 4 (.int .i64 vk); have Q1 := Q0.set 5 (.int .i64 vi); have Q2 := Q1.set 6 (.int .i64 vm); have Q3 := Q2.set 7 (.string vt); have Q4 := Q3.set 8 (.slice sa vl.length sc); simp only [List.set_cons_succ, List.set_cons_zero] at Q4; obtain ⟨Y, hY⟩ : ∃ Y, (((((u8.setCell ⟨w1.heap.size, 4, none⟩ (.int .i64 vk)).setCell ⟨w1.heap.size, 5, none⟩ (.int .i64 vi)).setCell ⟨w1.heap.size, 6, none⟩ (.int .i64 vm)).setCell ⟨w1.heap.size, 7, none⟩ (.string vt)).setCell ⟨w1.heap.size, 8, none⟩ (.slice sa vl.length sc)) = Y := ⟨_, rfl⟩; rw [hY] at Q4; have z0 := cells_at Q4.ev 0 _ rfl; have z1 := cells_at Q4.ev 1 _ rfl; have z2 := cells_at Q4.ev 2 _ rfl; have z3 := cells_at Q4.ev 3 _ rfl; have z4 := cells_at Q4.ev 4 _ rfl; have z5 := cells_at Q4.ev 5 _ rfl; have z6 := cells_at Q4.ev 6 _ rfl; have z7 := cells_at Q4.ev 7 _ rfl; have z8 := cells_at Q4.ev 8 _ rfl; have z9 := cells_at Q4.ev 9 _ rfl; have z10 := cells_at Q4.ev 10 _ rfl; have z11 := cells_at Q4.ev 11 _ rfl; have r0 := cells_at Q4.res 0 _ rfl; have rz0 := frozen_at Q4.res 0; have r1 := cells_at Q4.res 1 _ rfl; have rz1 := frozen_at Q4.res 1; have r2 := cells_at Q4.res 2 _ rfl; have rz2 := frozen_at Q4.res 2; have r3 := cells_at Q4.res 3 _ rfl; have rz3 := frozen_at Q4.res 3; have r4 := cells_at Q4.res 4 _ rfl; have rz4 := frozen_at Q4.res 4; have r5 := cells_at Q4.res 5 _ rfl; have rz5 := frozen_at Q4.res 5; have r6 := cells_at Q4.res 6 _ rfl; have rz6 := frozen_at Q4.res 6; have r7 := cells_at Q4.res 7 _ rfl; have rz7 := frozen_at Q4.res 7; have r8 := cells_at Q4.res 8 _ rfl; have rz8 := frozen_at Q4.res 8; have r9 := cells_at Q4.res 9 _ rfl; have rz9 := frozen_at Q4.res 9; have r10 := cells_at Q4.res 10 _ rfl; have rz10 := frozen_at Q4.res 10; have r11 := cells_at Q4.res 11 _ rfl; have rz11 := frozen_at Q4.res 11; have QQ := hide (And.intro Q4 (And.intro i8 (And.intro g8 hY))); clear T8 i8 g8 Q0 Q1 Q2 Q3 Q4))
  have hkk := HK.out
  obtain ⟨e1, e2, e3, e4, e5⟩ := dev_end w Y _ w1.heap.size db rb lo B sl l _ _ QQ.out.1 ⟨(x.toNat : Int), textOf r, [], [], ⟨vk, vi, vm, vt, vl⟩, 0, 0, 0⟩ (.slice sa vl.length sc) rfl
  refine bodyPost_ret (results_cell_row rfl _ _ w.heap.size _ _ _ _ rfl e1 Tryz.underlying48 rfl infoEvD) rfl ?_
  have hE := LE.out
  have hG := LG.out
  have hwE := QQ.out.1.hE
  have hrb3 := QQ.out.1.dec.hrb
  have h5 : Y.heap.size = u8.heap.size := by rw [← QQ.out.2.2.2]; simp [World.setCell]
  refine EdR.of_ok (by rw [HF.out]) e2 (.slice sa vl.length sc) rfl (QQ.out.2.1.kept (fun b o hb => ?_) (fun b hb => ?_)) e5
  · obtain ⟨hb1, hb2⟩ := hb
    have nE : b ≠ w1.heap.size := by omega
    refine World.cell?_of_block ((e3 b (by omega)).trans ?_)
    rw [← QQ.out.2.2.2, Below.heap_setCell _ _ _ _ nE, Below.heap_setCell _ _ _ _ nE, Below.heap_setCell _ _ _ _ nE, Below.heap_setCell _ _ _ _ nE, Below.heap_setCell _ _ _ _ nE]
  · obtain ⟨hb1, hb2⟩ := hb
    exact ⟨by omega, Nat.lt_of_lt_of_eq (by omega) e4.symm⟩

theorem dev_k (w : World) (db rb lo B : Nat) (sl : Value) (l r : List UInt8) (hD : EDAt w db rb lo B sl l r) (hl : l.length ≤ 1000000000000) (hT : Tabs w) (ho : rb ≠ 2 ∧ rb ≠ 0) :
    Calls Tryz.prog 39 #[.pointer (some ⟨db, 0, none⟩)] w fun e w' => EdR w db rb lo B sl l r e w' := by
  cases r with
  | nil => exact dev_none w db rb lo B sl l hD
  | cons x r =>
    by_cases hk : x.toNat = 1
    · by_cases t0 : textErr r = 0
      · by_cases t1 : textErr (textRest r) = 0
        · by_cases t2 : textErr (textRest (textRest r)) = 0
          · cases hf : framedB ⟨(x.toNat : Int), textOf r, textOf (textRest r), textOf (textRest (textRest r)), ⟨0, 0, 0, ⟨#[]⟩, []⟩, 0, 0, 0⟩ with
            | false => exact dev_i_fr w db rb lo B sl l x r hD hl hT ho hk t0 t1 t2 hf
            | true =>
              cases hv : decVal6 (textRest (textRest (textRest r))) with
              | none => exact dev_i_nv w db rb lo B sl l x r hD hl hT ho hk t0 t1 t2 hf hv
              | some z => exact dev_i_ok w db rb lo B sl l x r hD hl hT ho hk t0 t1 t2 hf z.1 z.2 hv
          · exact dev_i_t2 w db rb lo B sl l x r hD hl hT ho hk t0 t1 t2
        · exact dev_i_t1 w db rb lo B sl l x r hD hl hT ho hk t0 t1
      · exact dev_i_t0 w db rb lo B sl l x r hD hl hT ho hk t0
    · by_cases t0 : textErr r = 0
      · cases hf : framedB ⟨(x.toNat : Int), textOf r, [], [], ⟨0, 0, 0, ⟨#[]⟩, []⟩, 0, 0, 0⟩ with
        | false => exact dev_r_fr w db rb lo B sl l x r hD hl hT ho hk t0 hf
        | true =>
          cases hv : decVal6 (textRest r) with
          | none => exact dev_r_nv w db rb lo B sl l x r hD hl hT ho hk t0 hf hv
          | some z => exact dev_r_ok w db rb lo B sl l x r hD hl hT ho hk t0 hf z.1 z.2 hv
      · exact dev_r_t0 w db rb lo B sl l x r hD hl hT ho hk t0
/-- What an event out of bytes is. -/
theorem decHead6_ok {l r : List UInt8} {e : Evn} (hl : l.length ≤ 1000000000000) (h : decHead6 l = some (e, r)) : r.length < l.length ∧ e.proc.length ≤ 1000000000000 ∧ e.obj.length ≤ 1000000000000 ∧ e.op.length ≤ 1000000000000 ∧ (∃ p, p ≤ l.length ∧ r = l.drop p) := by
  cases l with
  | nil => cases h
  | cons k t =>
    have a0 := textRest_len t
    have b0 := textOf_len t
    have a1 := textRest_len (textRest t)
    have b1 := textOf_len (textRest t)
    have a2 := textRest_len (textRest (textRest t))
    have b2 := textOf_len (textRest (textRest t))
    have d0 := textRest_drop (l := k :: t) (r := t) ⟨1, by simp, rfl⟩
    have d2 := textRest_drop (textRest_drop d0)
    rw [List.length_cons] at hl
    simp only [decHead6] at h
    split at h
    · split at h
      · split at h
        · split at h
          · cases h
            refine ⟨by rw [List.length_cons]; omega, by simp only; omega, by simp only; omega, by simp only; omega, d2⟩
          · cases h
        · cases h
      · cases h
        refine ⟨by rw [List.length_cons]; omega, by simp only; omega, by simp, by simp, d0⟩
    · cases h
theorem decVal6_ok {l : List UInt8} {v : Vl} {p : Nat} (h : decVal6 l = some (v, p)) : rightV v = true ∧ v.ok ∧ p ≤ l.length := by
  unfold decVal6 at h
  cases hd : decM l 4097 0 0 with
  | none => rw [hd] at h; cases h
  | some z =>
    obtain ⟨v', q, q'⟩ := z
    rw [hd] at h
    simp only at h
    split at h
    · rename_i hr
      simp only [Option.some.injEq, Prod.mk.injEq] at h
      obtain ⟨rfl, rfl⟩ := h
      exact ⟨hr, decM_ok hd, (decM_le l 4097 (Nat.zero_le _) hd).1⟩
    · cases h
theorem name_len {t : List UInt8} (h : nameE t = 0) : t.length ≤ 1048576 := by
  unfold nameE at h
  split at h
  · cases h
  · rename_i h1
    have h2 := ru_le4 t
    have h4 : ¬ 32 < (ru t).length := fun h => h1 (.inr h)
    omega
theorem framed_len {e : Evn} (h : framedB e = true) : e.proc.length ≤ 1048576 ∧ e.obj.length ≤ 1048576 ∧ e.op.length ≤ 1048576 := by
  unfold framedB at h
  split at h
  · simp only [Bool.and_eq_true] at h
    obtain ⟨⟨h1, h2⟩, h3⟩ := h
    unfold symB at h1 h3
    unfold anyB at h2
    simp only [Bool.and_eq_true, beq_iff_eq] at h1 h2 h3
    exact ⟨name_len h1.2, name_len h2, name_len h3.2⟩
  · split at h
    · simp only [Bool.and_eq_true, List.isEmpty_iff] at h
      obtain ⟨⟨h1, h2⟩, h3⟩ := h
      unfold symB at h1
      simp only [Bool.and_eq_true, beq_iff_eq] at h1
      exact ⟨name_len h1.2, by rw [h2]; simp, by rw [h3]; simp⟩
    · cases h
theorem decEv6_ok {l r : List UInt8} {e : Evn} (hl : l.length ≤ 1000000000000) (h : decEv6 l = some (e, r)) : r.length < l.length ∧ EvOk e ∧ rightE e = true ∧ e.val.size ≤ 1000000000 := by
  unfold decEv6 at h
  cases hh : decHead6 l with
  | none => rw [hh] at h; cases h
  | some z =>
    obtain ⟨e0, r0⟩ := z
    rw [hh] at h
    simp only at h
    split at h
    · rename_i hf
      cases hv : decVal6 r0 with
      | none => rw [hv] at h; cases h
      | some y =>
        obtain ⟨v, p⟩ := y
        rw [hv] at h
        cases h
        obtain ⟨h1, _⟩ := decHead6_ok hl hh
        obtain ⟨h2, h3, h4⟩ := framed_len hf
        obtain ⟨k1, k2, k3⟩ := decVal6_ok hv
        have := right_size k1
        refine ⟨by rw [List.length_drop]; omega, ⟨h2, h3, h4, k2⟩, ?_, by simp only; omega⟩
        rw [right_framed]
        have hf' : framedB ⟨e0.kind, e0.proc, e0.obj, e0.op, v, 0, 0, 0⟩ = true := hf
        rw [hf', k1]
        rfl
    · cases h
end Go.Proofs.YthmhcpghfbifiaaGreatDoor
