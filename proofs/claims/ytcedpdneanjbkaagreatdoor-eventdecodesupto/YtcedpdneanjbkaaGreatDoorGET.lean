/- The reference's Decode of events. -/
import Derived.Test.YtcedpdneanjbkaaGreatDoorGER
import Derived.Test.YtcedpdneanjbkaaGreatDoorGEC
import Derived.Test.YtcedpdneanjbkaaGreatDoorGEA
import Derived.Test.YtcedpdneanjbkaaGreatDoorGES
import Derived.Test.YtcedpdneanjbkaaGreatDoorGEG
import Derived.Test.YtcedpdneanjbkaaGreatDoorGEB
import Derived.Test.YtcedpdneanjbkaaGreatDoorZESame
import Derived.Test.YtcedpdneanjbkaaGreatDoorGEF
import Derived.Test.YtcedpdneanjbkaaGreatDoorGE3
import Derived.Test.YtcedpdneanjbkaaGreatDoorZEDec6
import Derived.Deep.Slices
import Derived.ChangeMaps5
import Derived.Test.YtcedpdneanjbkaaGreatDoorGOpens
import Derived.Test.YtcedpdneanjbkaaGreatDoorGOctet
import Derived.Test.YtcedpdneanjbkaaGreatDoorGEH
namespace Go.Proofs.YtcedpdneanjbkaaGreatDoor
open Go.RowKit

/-- What Encode answers, in one form. -/
theorem EncR.oneR {w : World} {l : List Evn} {e : Ending} {w' : World} (h : EncR w l e w') :
    ∃ v, e = .returned (.tuple #[v, .int .i64 (bif l.all rightE then 0 else 60)]) ∧ w'.ownsRow w.heap.size 5 1 v (bif l.all rightE then encL l else []).length (cellsOf (bif l.all rightE then encL l else [])) ∧ Below w.heap.size w w' := by
  unfold EncR at h
  cases hr : l.all rightE
  · rw [hr, if_neg (by simp)] at h
    obtain ⟨rfl, hb⟩ := h
    exact ⟨_, rfl, ⟨rfl, .inl ⟨rfl, rfl⟩⟩, hb⟩
  · rw [hr, if_pos rfl] at h
    obtain ⟨a, c, rfl, ho, hb⟩ := h
    exact ⟨_, rfl, ho, hb⟩
/-- The value at the beginning of bytes. -/
def Vd6 (w : World) (l : List UInt8) (e : Ending) (w' : World) : Prop := Below w.heap.size w w' ∧ match decVal6 l with
  | some (v, p) => ∃ s', e = .returned (.tuple #[.agg (vcells v s'), .int .i64 p, .int .i64 0]) ∧ ItemsIn w' (fun b => w.heap.size ≤ b ∧ b < w'.heap.size) 16 s' v.items
  | none => e = .returned (.tuple #[.agg zcells, .int .i64 0, .int .i64 41])
theorem refVal6_k (w : World) (sl : Value) (l : List UInt8) (hB : BytesIn w 0 w.heap.size sl l) (hl : l.length ≤ 1048576) :
    Calls Tryz.prog 45 #[sl] w fun e w' => Vd6 w l e w' := by
  unfold Vd6
  cases hv : decVal6 l with
  | some z =>
    obtain ⟨v, p⟩ := z
    obtain ⟨hr, _, _⟩ := decVal6_ok hv
    unfold decVal6 at hv
    cases hd : decM l 4097 0 0 with
    | none => rw [hd] at hv; cases hv
    | some y =>
      obtain ⟨v', p', q'⟩ := y
      rw [hd] at hv
      simp only at hv
      split at hv
      · simp only [Option.some.injEq, Prod.mk.injEq] at hv
        obtain ⟨rfl, rfl⟩ := hv
        have hrd := (dec_both l 4097 (by omega) v' (p', q') hr).1 hd
        exact (refDec_k w sl l hB hl v' p' q' hrd hr).mono fun e w' ⟨s', h1, h2, h3⟩ => ⟨h3, s', h1, h2⟩
      · cases hv
  | none =>
    simp only
    cases hm : readM l 16 0 0 with
    | none => exact (refDec_none w sl l hB hl hm).mono fun e w' h => ⟨h.2, h.1⟩
    | some z =>
      obtain ⟨v, p, q⟩ := z
      cases hr : rightV v with
      | false => exact (refDec_wrong w sl l hB hl v p q hm hr).mono fun e w' h => ⟨h.2, h.1⟩
      | true =>
        have hd := (dec_both l 4097 (by omega) v (p, q) hr).2 hm
        unfold decVal6 at hv
        rw [hd] at hv
        simp only [hr, if_true] at hv
        cases hv
/-- An event that was read is laid behind the others. -/
theorem dc_push {w wr W4 : World} {e4 : Nat} {v s2 : Value} {acc : List Evn} {x : Evn} (hM : EvMk wr w.heap.size 16 v acc) (hbel : Below w.heap.size w wr)
    (b4 : Below wr.heap.size wr W4) (z4 : W4.heap.size = e4) (h4 : wr.heap.size < W4.heap.size) (i2 : ItemsIn W4 (fun b => wr.heap.size < b ∧ b < W4.heap.size) 16 s2 x.val.items)
    (ho : EvOk x) (hz : x.val.size ≤ 1000000000) (hn : acc.length + 1 ≤ 1000000000) (vs : List Value) (V : World) (hV : putN W4 wr.heap.size 4 vs = V) :
    ∃ g cap w', (Builtin.append_ #[22, 22] 22 #[v, .slice (some ⟨e4, 0, none⟩) 1 1]).run Tryz.prog (V.alloc (.cells (evCells x s2) 50)) = .ok (.slice (some ⟨g, 0, none⟩) (acc.length + 1) cap) w' ∧ EvMk w' w.heap.size 16 (.slice (some ⟨g, 0, none⟩) (acc.length + 1) cap) (acc ++ [x]) ∧ Below w.heap.size w w' := by
  have gP := putN_far (grown_of_below (r := none) b4) (b := wr.heap.size) (Nat.le_refl _) vs 4
  have hVs : V.heap.size = W4.heap.size := by rw [← hV]; exact putN_size _ _ _
  have hVk : ∀ k, k ≠ wr.heap.size → V.heap[k]? = W4.heap[k]? := fun k hk => by rw [← hV]; exact putN_other hk _ _ _
  rw [hV] at gP
  have bV : Below wr.heap.size wr V := ⟨gP.os, gP.tape, gP.output, gP.size, fun k hk => gP.block k hk (by simp)⟩
  have hMV := hM.far bV.size (fun k _ hk => bV.block k hk)
  have hx : ItemsIn V (fun b => w.heap.size ≤ b ∧ b < V.heap.size ∧ v.ownBlock ≠ some b) 16 s2 x.val.items :=
    i2.kept (fun b o hb => World.cell?_of_block (hVk b (by omega))) (fun b hb => ⟨by have := hbel.size; omega, by omega, fun e => by have := (hM.lt e).2; omega⟩)
  obtain ⟨g, cap, w', hrun, mk, gr, lie⟩ := hMV.push (by have := hbel.size; have := bV.size; omega) hn x 22 hx ho hz
  rw [hVs, z4] at hrun
  exact ⟨g, cap, w', hrun, mk, (hbel.trans (bV.mono hbel.size)).grown gr (by have := hbel.size; have := bV.size; omega) (fun q e => (hM.lt e).1)⟩
/-- What Decode comes to. -/
def Rd6 (w : World) (b : List UInt8) (e : Ending) (w' : World) : Prop := Below w.heap.size w w' ∧ match rdL b with
  | some l => if l.all rightE = true ∧ encL l = b then ∃ v, e = .returned (.tuple #[v, .int .i64 0]) ∧ EvMk w' w.heap.size 16 v l else e = .returned (.tuple #[.slice none 0 0, .int .i64 61])
  | none => e = .returned (.tuple #[.slice none 0 0, .int .i64 61])
theorem rd6_no {w w' : World} {b : List UInt8} (h : rdL b = none) (hb : Below w.heap.size w w') : Rd6 w b (.returned (.tuple #[.slice none 0 0, .int .i64 61])) w' := by
  refine ⟨hb, ?_⟩
  rw [h]
/-- How far it has come. -/
def AheadR (n0 : Nat) (r0 : List UInt8) (acc : List Evn) (n : Nat) (r : List UInt8) : Prop := rdEvs n0 r0 = match rdEvs n r with
  | none => none
  | some (es, r') => some (acc ++ es, r')
theorem AheadR.start (n : Nat) (r : List UInt8) : AheadR n r [] n r := by
  unfold AheadR
  cases rdEvs n r with
  | none => rfl
  | some z => rfl
theorem AheadR.stop {n0 n : Nat} {r0 r : List UInt8} {acc : List Evn} (h : AheadR n0 r0 acc (n + 1) r) (he : rdEv r = none) : rdEvs n0 r0 = none := by
  unfold AheadR at h
  rw [h, rdEvs, he]
theorem AheadR.next {n0 n : Nat} {r0 r r' : List UInt8} {acc : List Evn} {e : Evn} (h : AheadR n0 r0 acc (n + 1) r) (he : rdEv r = some (e, r')) : AheadR n0 r0 (acc ++ [e]) n r' := by
  unfold AheadR at h ⊢
  rw [h, rdEvs, he]
  simp only
  cases rdEvs n r' with
  | none => rfl
  | some z => simp
theorem AheadR.done {n0 : Nat} {r0 r : List UInt8} {acc : List Evn} (h : AheadR n0 r0 acc 0 r) : rdEvs n0 r0 = some (acc, r) := by
  unfold AheadR at h
  rw [h]
  simp [rdEvs]
theorem bytes_at {w W : World} {B : Nat} {v : Value} {l : List UInt8} (h : BytesIn w 0 B v l) (hB : B ≤ w.heap.size) (hb : Below w.heap.size w W) : BytesIn W 0 B v l :=
  h.mono (fun b o _ hb' => hb.cell (p := ⟨b, o, none⟩) (by show b < w.heap.size; omega)) (Nat.le_refl _) (Nat.le_refl _)
theorem wordU_k (w U : World) (hU : Below w.heap.size w U) (a : Option Addr) (c : Nat) (l : List UInt8) (h : BytesIn w 0 w.heap.size (.slice a l.length c) l) (hl : l.length ≤ 1048576) :
    Calls Tryz.prog 44 #[.slice a l.length c] U fun e w' => Below U.heap.size U w' ∧ match word6M l with
      | some (p, r) => ∃ a' c', e = .returned (.tuple #[.string (bsN p), .slice a' r.length c', .bool true]) ∧ BytesIn w 0 w.heap.size (.slice a' r.length c') r
      | none => e = .returned (.tuple #[.string ⟨#[]⟩, .slice a l.length c, .bool false]) := by
  refine (word6R_k U w.heap.size hU.size a c l (bytes_at h (Nat.le_refl _) hU) (by omega)).mono fun e w' hw => ?_
  unfold Wd6 at hw
  refine ⟨hw.1, ?_⟩
  have h2 := hw.2
  cases hm : word6M l with
  | none => rw [hm] at h2; exact h2
  | some z =>
    obtain ⟨p, r⟩ := z
    rw [hm] at h2
    obtain ⟨a', c', h3, h4⟩ := h2
    exact ⟨a', c', h3, h4.mono (fun b o _ hb => (hU.cell (p := ⟨b, o, none⟩) hb).symm) (Nat.le_refl _) (Nat.le_refl _)⟩
theorem valU_k (w U : World) (hU : Below w.heap.size w U) (a : Option Addr) (c : Nat) (l : List UInt8) (h : BytesIn w 0 w.heap.size (.slice a l.length c) l) (hl : l.length ≤ 1048576) :
    Calls Tryz.prog 45 #[.slice a l.length c] U fun e w' => Below U.heap.size U w' ∧ match decVal6 l with
      | some (v, p) => ∃ s', e = .returned (.tuple #[.agg (vcells v s'), .int .i64 p, .int .i64 0]) ∧ ItemsIn w' (fun b => U.heap.size ≤ b ∧ b < w'.heap.size) 16 s' v.items
      | none => e = .returned (.tuple #[.agg zcells, .int .i64 0, .int .i64 41]) :=
  refVal6_k U (.slice a l.length c) l ((bytes_at h (Nat.le_refl _) hU).mono (fun _ _ _ _ => rfl) (Nat.le_refl _) hU.size) hl
set_option maxRecDepth 100000 in
set_option maxHeartbeats 8000000 in
theorem refDecode6_k (w : World) (a : Option Addr) (c : Nat) (b : List UInt8) (hB : BytesIn w 0 w.heap.size (.slice a b.length c) b) (hb : b.length ≤ 1048576) :
    Calls Tryz.prog 18 #[.slice a b.length c] w fun e w' => Rd6 w b e w' := by
  have HK := hide (take6_k w w.heap.size a c b hB (by omega))
  unfold Tk6 at HK
  cases ht : take6M b with
  | none =>
    rw [ht] at HK
    simp only at HK
    have HN : Hid (rdL b = none) := hide (by unfold rdL; rw [ht])
    clear hB ht
    go_enter Tryz.func18, Tryz.ntmps18
    go_wp2_with (go_at_call 43; refine HK.out.mono ?_; clear HK; rintro e w1 ⟨b1, rfl⟩; have B1 := hide b1; clear b1)
    go_ret2
    exact rd6_no HN.out B1.out
  | some z =>
  obtain ⟨n, r0⟩ := z
  rw [ht] at HK
  simp only at HK
  have hr0 := take6G_len 4 0 0 b n r0 ht
  by_cases hn : n ≤ r0.length
  rotate_left
  · have HN : Hid (rdL b = none) := hide (by unfold rdL; rw [ht]; simp only; rw [if_neg hn])
    have hni : (r0.length : Int) < (n : Int) := by omega
    clear hB ht
    go_enter Tryz.func18, Tryz.ntmps18
    go_wp2_with (go_at_call 43; refine HK.out.mono ?_; clear HK; rintro e w1 ⟨b1, a1, c1, rfl, h1⟩; have B1 := hide b1; clear b1 h1)
    go_ret2
    exact rd6_no HN.out B1.out
  have HRL : Hid ((rdEvs n r0 = none → rdL b = none) ∧ ∀ es r', rdEvs n r0 = some (es, r') → rdL b = some es) := hide (by
    unfold rdL
    rw [ht]
    simp only
    rw [if_pos hn]
    exact ⟨fun h => by rw [h], fun es r' h => by rw [h]⟩)
  have hni : ¬ ((r0.length : Int) < (n : Int)) := by omega
  have HB := hide hB
  clear hB ht
  go_enter Tryz.func18, Tryz.ntmps18
  go_wp2_with (go_at_call 43; refine HK.out.mono ?_; clear HK; rintro e w1 ⟨b1, a1, c1, rfl, h1⟩; have B1 := hide (And.intro b1 h1); clear b1 h1)
  simp only [show decide (r0.length < n) = false from decide_eq_false (by omega)]
  go_loopw [5, 7, 8] (fun sr sv i wr => ∃ (k : Nat) (rk : List UInt8) (acc : List Evn) (ra : Option Addr) (rc : Nat), k ≤ n ∧ i = .int .i64 k ∧ sr = .slice ra rk.length rc ∧ BytesIn w 0 w.heap.size (.slice ra rk.length rc) rk ∧ EvMk wr w.heap.size 16 sv acc ∧ acc.length + rk.length ≤ b.length ∧ AheadR n r0 acc (n - k) rk ∧ Below w.heap.size w wr) (fun _ _ i _ => n - (Lib.intOf i).toNat)
  case atStart => exact ⟨0, r0, [], a1, c1, Nat.zero_le _, rfl, rfl, B1.out.2, EvMk.nil _ _ _, by simp; omega, AheadR.start _ _, B1.out.1⟩
  case round =>
    obtain ⟨k, rk, acc, ra, rc, hk, rfl, rfl, hBr, hM, hlen, hA, hbel⟩ := hrel
    by_cases hlt : k < n
    · obtain ⟨j, hj⟩ : ∃ j, n - k = j + 1 := ⟨n - k - 1, by omega⟩
      have hj' : n - (k + 1) = j := by omega
      rw [hj] at hA
      have hlti : (k : Int) < (n : Int) := by omega
      cases rk with
      | nil =>
        have HN : Hid (rdL b = none) := hide (HRL.out.1 (hA.stop rfl))
        have BB := hide hbel
        clear hA hM hBr hbel hlen
        go_wp2
        go_ret2
        exact rd6_no HN.out BB.out
      | cons x t =>
        have HWD := hide (fun (U : World) (bU : Below wr.heap.size wr U) (a : Option Addr) (c : Nat) (l : List UInt8) (h : BytesIn w 0 w.heap.size (.slice a l.length c) l) (hl : l.length ≤ 1048576) => wordU_k w U (hbel.trans (bU.mono hbel.size)) a c l h hl)
        have HVD := hide (fun (U : World) (bU : Below wr.heap.size wr U) (a : Option Addr) (c : Nat) (l : List UInt8) (h : BytesIn w 0 w.heap.size (.slice a l.length c) l) (hl : l.length ≤ 1048576) => valU_k w U (hbel.trans (bU.mono hbel.size)) a c l h hl)
        obtain ⟨bb, off, rfl, hbb, hcell⟩ : ∃ bb off, ra = some ⟨bb, off, none⟩ ∧ bb < w.heap.size ∧ wr.cell? ⟨bb, off, none⟩ = some (.int .u8 (x.toNat : Int)) := by
          obtain ⟨a', c', e, _, _, h3⟩ := hBr
          obtain ⟨bb, off, e2, _, h4, h5⟩ := h3 0 (by simp)
          cases e
          exact ⟨bb, off, e2, h4, (hbel.cell (p := ⟨bb, off, none⟩) h4).trans h5⟩
        obtain ⟨a1', c1', hsl1, hBt0⟩ := slice_low w .i64 _ _ hBr 1 (by simp)
        have hBt : Hid (BytesIn w 0 w.heap.size (.slice a1' t.length c1') t) := hide hBt0
        have e1n : ((1 : Nat) : Int) = 1 := rfl
        rw [e1n] at hsl1
        simp only [List.length_cons, Nat.add_sub_cancel] at hsl1
        rw [List.length_cons] at hlen
        have HA0 := hide hA
        have HM := hide (And.intro hM hbel)
        have hlz : ((t.length + 1 : Nat) : Int) ≠ 0 := by omega
        have hlz2 : (((t.length + 1 : Nat) : Int) == 0) = false := by simp; omega
        have hx256 := x.toNat_lt
        have hwx : IntKind.i64.wrap (x.toNat : Int) = (x.toNat : Int) := by rw [IntKind.wrap_i64]; omega
        obtain ⟨va, vc, rfl⟩ := hM.len
        clear hBt0 hBr hA hM hbel
        by_cases hx1 : x.toNat = 1
        · rw [hx1] at hcell hwx
          have bW1 : Below wr.heap.size wr (wr.alloc (.cells #[.int .i64 1, .string ⟨#[]⟩, .string ⟨#[]⟩, .string ⟨#[]⟩, .int .i64 0, .int .i64 0, .int .i64 0, .string ⟨#[]⟩, .slice none 0 0, .int .i64 0, .int .i64 0, .int .i64 0] 50)) := alloc_v (Below.refl _ _) _
          have HE0 := hide (And.intro (World.alloc_heap_new wr (.cells #[.int .i64 1, .string ⟨#[]⟩, .string ⟨#[]⟩, .string ⟨#[]⟩, .int .i64 0, .int .i64 0, .int .i64 0, .string ⟨#[]⟩, .slice none 0 0, .int .i64 0, .int .i64 0, .int .i64 0] 50)) bW1)
          have HW1 := hide (HWD.out _ bW1 _ _ _ hBt.out (by omega))
          cases hw1 : word6M t with
          | none =>
            have HN : Hid (rdL b = none) := hide (HRL.out.1 (HA0.out.stop (by simp only [rdEv, hw1])))
            rw [hw1] at HW1
            simp only at HW1
            go_wp2_with (first
              | (go_at_call 44; refine HW1.out.mono ?_; clear HW1; rintro e w2 ⟨b2, rfl⟩; have f2 := (b2.block _ (Array.getElem?_eq_some_iff.1 HE0.out.1).1).trans HE0.out.1; have y20 := cells_at f2 0 _ rfl; have y21 := cells_at f2 1 _ rfl; have z21 := frozen_at f2 1; have g1 := heap_setCell_same _ _ 1 _ _ (.string ⟨#[]⟩) f2; have bX1 := (HE0.out.2.trans (b2.mono HE0.out.2.size)).setCell (p := ⟨wr.heap.size, 1, none⟩) (Nat.le_refl _) (.string ⟨#[]⟩); have HE1 := hide (And.intro g1 bX1); clear f2 g1 bX1 b2))
            go_ret2
            exact rd6_no HN.out (HM.out.2.trans (HE1.out.2.mono HM.out.2.size))
          | some z1 =>
            obtain ⟨p, r1⟩ := z1
            rw [hw1] at HW1
            simp only at HW1
            have hl1 := word6M_len hw1
            cases hw2 : word6M r1 with
            | none =>
              have HN : Hid (rdL b = none) := hide (HRL.out.1 (HA0.out.stop (by simp only [rdEv, hw1, hx1, if_true, hw2])))
              go_wp2_with (first
                | (go_at_call 44; refine HW1.out.mono ?_; clear HW1; rintro e w2 ⟨b2, a2, c2, rfl, h2⟩; have f2 := (b2.block _ (Array.getElem?_eq_some_iff.1 HE0.out.1).1).trans HE0.out.1; have y20 := cells_at f2 0 _ rfl; have y21 := cells_at f2 1 _ rfl; have z21 := frozen_at f2 1; have g1 := heap_setCell_same _ _ 1 _ _ (.string (bsN p)) f2; have bX1 := (HE0.out.2.trans (b2.mono HE0.out.2.size)).setCell (p := ⟨wr.heap.size, 1, none⟩) (Nat.le_refl _) (.string (bsN p)); have HE1 := hide (And.intro g1 bX1); have HW2 := hide (HWD.out _ bX1 _ _ _ h2 (by omega)); rw [hw2] at HW2; simp only at HW2; clear f2 g1 bX1 b2 h2)
                | (go_at_call 44; refine HW2.out.mono ?_; clear HW2; rintro e w3 ⟨b3, rfl⟩; have f3 := (b3.block _ (Array.getElem?_eq_some_iff.1 HE1.out.1).1).trans HE1.out.1; have y30 := cells_at f3 0 _ rfl; have y32 := cells_at f3 2 _ rfl; have z32 := frozen_at f3 2; have g2 := heap_setCell_same _ _ 2 _ _ (.string ⟨#[]⟩) f3; have bX2 := (HE1.out.2.trans (b3.mono HE1.out.2.size)).setCell (p := ⟨wr.heap.size, 2, none⟩) (Nat.le_refl _) (.string ⟨#[]⟩); have HE2 := hide (And.intro g2 bX2); clear f3 g2 bX2 b3))
              go_ret2
              exact rd6_no HN.out (HM.out.2.trans (HE2.out.2.mono HM.out.2.size))
            | some z2 =>
              obtain ⟨o, r2⟩ := z2
              have hl2 := word6M_len hw2
              cases hw3 : word6M r2 with
              | none =>
                have HN : Hid (rdL b = none) := hide (HRL.out.1 (HA0.out.stop (by simp only [rdEv, hw1, hx1, if_true, hw2, hw3])))
                go_wp2_with (first
                  | (go_at_call 44; refine HW1.out.mono ?_; clear HW1; rintro e w2 ⟨b2, a2, c2, rfl, h2⟩; have f2 := (b2.block _ (Array.getElem?_eq_some_iff.1 HE0.out.1).1).trans HE0.out.1; have y20 := cells_at f2 0 _ rfl; have y21 := cells_at f2 1 _ rfl; have z21 := frozen_at f2 1; have g1 := heap_setCell_same _ _ 1 _ _ (.string (bsN p)) f2; have bX1 := (HE0.out.2.trans (b2.mono HE0.out.2.size)).setCell (p := ⟨wr.heap.size, 1, none⟩) (Nat.le_refl _) (.string (bsN p)); have HE1 := hide (And.intro g1 bX1); have HW2 := hide (HWD.out _ bX1 _ _ _ h2 (by omega)); rw [hw2] at HW2; simp only at HW2; clear f2 g1 bX1 b2 h2)
                  | (go_at_call 44; refine HW2.out.mono ?_; clear HW2; rintro e w3 ⟨b3, a3, c3, rfl, h3⟩; have f3 := (b3.block _ (Array.getElem?_eq_some_iff.1 HE1.out.1).1).trans HE1.out.1; have y30 := cells_at f3 0 _ rfl; have y32 := cells_at f3 2 _ rfl; have z32 := frozen_at f3 2; have g2 := heap_setCell_same _ _ 2 _ _ (.string (bsN o)) f3; have bX2 := (HE1.out.2.trans (b3.mono HE1.out.2.size)).setCell (p := ⟨wr.heap.size, 2, none⟩) (Nat.le_refl _) (.string (bsN o)); have HE2 := hide (And.intro g2 bX2); have HW3 := hide (HWD.out _ bX2 _ _ _ h3 (by omega)); rw [hw3] at HW3; simp only at HW3; clear f3 g2 bX2 b3 h3)
                  | (go_at_call 44; refine HW3.out.mono ?_; clear HW3; rintro e w4 ⟨b4, rfl⟩; have f4 := (b4.block _ (Array.getElem?_eq_some_iff.1 HE2.out.1).1).trans HE2.out.1; have y40 := cells_at f4 0 _ rfl; have y43 := cells_at f4 3 _ rfl; have z43 := frozen_at f4 3; have g3 := heap_setCell_same _ _ 3 _ _ (.string ⟨#[]⟩) f4; have bX3 := (HE2.out.2.trans (b4.mono HE2.out.2.size)).setCell (p := ⟨wr.heap.size, 3, none⟩) (Nat.le_refl _) (.string ⟨#[]⟩); have HE3 := hide (And.intro g3 bX3); clear f4 g3 bX3 b4))
                go_ret2
                exact rd6_no HN.out (HM.out.2.trans (HE3.out.2.mono HM.out.2.size))
              | some z3 =>
                obtain ⟨q, r3⟩ := z3
                have hl3 := word6M_len hw3
                cases hv : decVal6 r3 with
                | none =>
                  have HN : Hid (rdL b = none) := hide (HRL.out.1 (HA0.out.stop (by simp only [rdEv, hw1, hw2, hw3, hx1, if_true, rdVal, hv])))
                  go_wp2_with (first
                    | (go_at_call 44; refine HW1.out.mono ?_; clear HW1; rintro e w2 ⟨b2, a2, c2, rfl, h2⟩; have f2 := (b2.block _ (Array.getElem?_eq_some_iff.1 HE0.out.1).1).trans HE0.out.1; have y20 := cells_at f2 0 _ rfl; have y21 := cells_at f2 1 _ rfl; have z21 := frozen_at f2 1; have g1 := heap_setCell_same _ _ 1 _ _ (.string (bsN p)) f2; have bX1 := (HE0.out.2.trans (b2.mono HE0.out.2.size)).setCell (p := ⟨wr.heap.size, 1, none⟩) (Nat.le_refl _) (.string (bsN p)); have HE1 := hide (And.intro g1 bX1); have HW2 := hide (HWD.out _ bX1 _ _ _ h2 (by omega)); rw [hw2] at HW2; simp only at HW2; clear f2 g1 bX1 b2 h2)
                    | (go_at_call 44; refine HW2.out.mono ?_; clear HW2; rintro e w3 ⟨b3, a3, c3, rfl, h3⟩; have f3 := (b3.block _ (Array.getElem?_eq_some_iff.1 HE1.out.1).1).trans HE1.out.1; have y30 := cells_at f3 0 _ rfl; have y32 := cells_at f3 2 _ rfl; have z32 := frozen_at f3 2; have g2 := heap_setCell_same _ _ 2 _ _ (.string (bsN o)) f3; have bX2 := (HE1.out.2.trans (b3.mono HE1.out.2.size)).setCell (p := ⟨wr.heap.size, 2, none⟩) (Nat.le_refl _) (.string (bsN o)); have HE2 := hide (And.intro g2 bX2); have HW3 := hide (HWD.out _ bX2 _ _ _ h3 (by omega)); rw [hw3] at HW3; simp only at HW3; clear f3 g2 bX2 b3 h3)
                    | (go_at_call 44; refine HW3.out.mono ?_; clear HW3; rintro e w4 ⟨b4, a4, c4, rfl, h4⟩; have f4 := (b4.block _ (Array.getElem?_eq_some_iff.1 HE2.out.1).1).trans HE2.out.1; have y40 := cells_at f4 0 _ rfl; have y43 := cells_at f4 3 _ rfl; have z43 := frozen_at f4 3; have g3 := heap_setCell_same _ _ 3 _ _ (.string (bsN q)) f4; have bX3 := (HE2.out.2.trans (b4.mono HE2.out.2.size)).setCell (p := ⟨wr.heap.size, 3, none⟩) (Nat.le_refl _) (.string (bsN q)); have HE3 := hide (And.intro g3 bX3); have HV := hide (HVD.out _ bX3 _ _ _ h4 (by omega)); rw [hv] at HV; simp only at HV; clear f4 g3 bX3 b4 h4)
                    | (go_at_call 45; refine HV.out.mono ?_; clear HV; rintro e w6 ⟨b6, rfl⟩; have B6 := hide ((HE3.out.2.trans (b6.mono HE3.out.2.size)).alloc (HE3.out.2.trans (b6.mono HE3.out.2.size)).size (.cells zcells 46)); clear b6))
                  go_ret2
                  exact rd6_no HN.out (HM.out.2.trans (B6.out.mono HM.out.2.size))
                | some zv =>
                  obtain ⟨⟨vk, vi, vm, vt, vl⟩, m⟩ := zv
                  have hmr : m ≤ r3.length := (decVal6_ok hv).2.2
                  have hrd : rdEv (x :: t) = some (⟨1, p, o, q, ⟨vk, vi, vm, vt, vl⟩, 0, 0, 0⟩, r3.drop m) := by simp only [rdEv, hw1, hw2, hw3, hx1, if_true, rdVal, hv]
                  have hok := rdEv_ok (by rw [List.length_cons]; omega) hrd
                  have HA := hide (HA0.out.next hrd)
                  clear hrd
                  go_wp2_with (first
                    | (go_at_call 44; refine HW1.out.mono ?_; clear HW1; rintro e w2 ⟨b2, a2, c2, rfl, h2⟩; have f2 := (b2.block _ (Array.getElem?_eq_some_iff.1 HE0.out.1).1).trans HE0.out.1; have y20 := cells_at f2 0 _ rfl; have y21 := cells_at f2 1 _ rfl; have z21 := frozen_at f2 1; have g1 := heap_setCell_same _ _ 1 _ _ (.string (bsN p)) f2; have bX1 := (HE0.out.2.trans (b2.mono HE0.out.2.size)).setCell (p := ⟨wr.heap.size, 1, none⟩) (Nat.le_refl _) (.string (bsN p)); have HE1 := hide (And.intro g1 bX1); have HW2 := hide (HWD.out _ bX1 _ _ _ h2 (by omega)); rw [hw2] at HW2; simp only at HW2; clear f2 g1 bX1 b2 h2)
                    | (go_at_call 44; refine HW2.out.mono ?_; clear HW2; rintro e w3 ⟨b3, a3, c3, rfl, h3⟩; have f3 := (b3.block _ (Array.getElem?_eq_some_iff.1 HE1.out.1).1).trans HE1.out.1; have y30 := cells_at f3 0 _ rfl; have y32 := cells_at f3 2 _ rfl; have z32 := frozen_at f3 2; have g2 := heap_setCell_same _ _ 2 _ _ (.string (bsN o)) f3; have bX2 := (HE1.out.2.trans (b3.mono HE1.out.2.size)).setCell (p := ⟨wr.heap.size, 2, none⟩) (Nat.le_refl _) (.string (bsN o)); have HE2 := hide (And.intro g2 bX2); have HW3 := hide (HWD.out _ bX2 _ _ _ h3 (by omega)); rw [hw3] at HW3; simp only at HW3; clear f3 g2 bX2 b3 h3)
                    | (go_at_call 44; refine HW3.out.mono ?_; clear HW3; rintro e w4 ⟨b4, a4, c4, rfl, h4⟩; have f4 := (b4.block _ (Array.getElem?_eq_some_iff.1 HE2.out.1).1).trans HE2.out.1; have y40 := cells_at f4 0 _ rfl; have y43 := cells_at f4 3 _ rfl; have z43 := frozen_at f4 3; have g3 := heap_setCell_same _ _ 3 _ _ (.string (bsN q)) f4; have bX3 := (HE2.out.2.trans (b4.mono HE2.out.2.size)).setCell (p := ⟨wr.heap.size, 3, none⟩) (Nat.le_refl _) (.string (bsN q)); have HE3 := hide (And.intro g3 bX3); have HV := hide (HVD.out _ bX3 _ _ _ h4 (by omega)); rw [hv] at HV; simp only at HV; obtain ⟨a9, c9, hsl9, hB9⟩ := slice_low w .i64 _ _ h4 m hmr; have HB9 := hide hB9; clear hB9; clear f4 g3 bX3 b4 h4)
                    | (go_at_call 45; refine HV.out.mono ?_; clear HV; rintro e w6 ⟨b6, s6, rfl, i6⟩; obtain ⟨sa, sc, rfl, _⟩ := i6.len; have l6 := (Array.getElem?_eq_some_iff.1 HE3.out.1).1; obtain ⟨W6, hW6⟩ : ∃ W6, w6.alloc (.cells #[.int .i64 vk, .int .i64 vi, .int .i64 vm, .string vt, .slice sa vl.length sc] 46) = W6 := ⟨_, rfl⟩; have bA : Below w6.heap.size w6 W6 := (by rw [← hW6]; exact alloc_v (Below.refl _ _) _); have zA : W6.heap.size = w6.heap.size + 1 := (by rw [← hW6]; simp); have f6 := (bA.block _ (Nat.lt_of_lt_of_le l6 b6.size)).trans ((b6.block _ l6).trans HE3.out.1); have d6 : W6.heap[w6.heap.size]? = some (.cells #[.int .i64 vk, .int .i64 vi, .int .i64 vm, .string vt, .slice sa vl.length sc] 46 (0, 0)) := (by rw [← hW6]; exact World.alloc_heap_new w6 _); have q0 := cells_at f6 0 _ rfl; have q1 := cells_at f6 1 _ rfl; have q2 := cells_at f6 2 _ rfl; have q3 := cells_at f6 3 _ rfl; have q4 := cells_at f6 4 _ rfl; have q5 := cells_at f6 5 _ rfl; have q6 := cells_at f6 6 _ rfl; have q7 := cells_at f6 7 _ rfl; have q8 := cells_at f6 8 _ rfl; have q9 := cells_at f6 9 _ rfl; have q10 := cells_at f6 10 _ rfl; have q11 := cells_at f6 11 _ rfl; have u4z := frozen_at f6 4; have u5z := frozen_at f6 5; have u6z := frozen_at f6 6; have u7z := frozen_at f6 7; have u8z := frozen_at f6 8; have d60 := cells_at d6 0 _ rfl; have d61 := cells_at d6 1 _ rfl; have d62 := cells_at d6 2 _ rfl; have d63 := cells_at d6 3 _ rfl; have d64 := cells_at d6 4 _ rfl; have bQ := HE3.out.2.trans ((b6.trans (bA.mono b6.size)).mono HE3.out.2.size); have iQ : ItemsIn W6 (fun b => wr.heap.size < b ∧ b < W6.heap.size) 16 (.slice sa vl.length sc) vl := i6.kept (fun b o hb => bA.cell (p := ⟨b, o, none⟩) hb.2) (fun b hb => ⟨Nat.lt_of_lt_of_le l6 hb.1, by omega⟩); have HQ := hide (dc_push (x := ⟨1, p, o, q, ⟨vk, vi, vm, vt, vl⟩, 0, 0, 0⟩) HM.out.1 HM.out.2 bQ zA (Nat.lt_of_lt_of_le l6 (by have := b6.size; omega)) iQ hok.1.1 hok.1.2.2.2.1 (by omega) [.int .i64 vk, .int .i64 vi, .int .i64 vm, .string vt, .slice sa vl.length sc] _ rfl); obtain ⟨g, cap, w7, hrn, mk7, b7⟩ := HQ.out; simp only [putN, Nat.reduceAdd] at hrn; have HRN := hide hrn; have H7 := hide (And.intro mk7 b7); clear i6 b6 bA zA f6 d6 bQ iQ HQ hrn mk7 b7; subst hW6)
                    | (at_builtin; refine Lib.wpList_append_run _ rfl (.tmp 87) (.tmp 89) 22 22 rfl _ _ rfl rfl _ _ HRN.out ?_; clear HRN))
                  go_roundw
                  case rel => exact ⟨k + 1, r3.drop m, _, a9, c9, by omega, by go_num, by rw [List.length_drop], by have := HB9.out; rw [List.length_drop]; exact this, H7.out.1, by rw [List.length_append, List.length_cons, List.length_nil]; have := hok.2; rw [List.length_cons] at this; omega, by rw [hj']; exact HA.out, H7.out.2⟩
                  case measure => simp [Lib.intOf]; omega
        · have hx2 : ((x.toNat : Int) == 1) = false := by simp; omega
          obtain ⟨xn, hxn⟩ : ∃ xn, x.toNat = xn := ⟨_, rfl⟩
          rw [hxn] at hcell hwx hx2
          have bW1 : Below wr.heap.size wr (wr.alloc (.cells #[.int .i64 xn, .string ⟨#[]⟩, .string ⟨#[]⟩, .string ⟨#[]⟩, .int .i64 0, .int .i64 0, .int .i64 0, .string ⟨#[]⟩, .slice none 0 0, .int .i64 0, .int .i64 0, .int .i64 0] 50)) := alloc_v (Below.refl _ _) _
          have HE0 := hide (And.intro (World.alloc_heap_new wr (.cells #[.int .i64 xn, .string ⟨#[]⟩, .string ⟨#[]⟩, .string ⟨#[]⟩, .int .i64 0, .int .i64 0, .int .i64 0, .string ⟨#[]⟩, .slice none 0 0, .int .i64 0, .int .i64 0, .int .i64 0] 50)) bW1)
          have HW1 := hide (HWD.out _ bW1 _ _ _ hBt.out (by omega))
          cases hw1 : word6M t with
          | none =>
            have HN : Hid (rdL b = none) := hide (HRL.out.1 (HA0.out.stop (by simp only [rdEv, hw1])))
            rw [hw1] at HW1
            simp only at HW1
            go_wp2_with (first
              | (go_at_call 44; refine HW1.out.mono ?_; clear HW1; rintro e w2 ⟨b2, rfl⟩; have f2 := (b2.block _ (Array.getElem?_eq_some_iff.1 HE0.out.1).1).trans HE0.out.1; have y20 := cells_at f2 0 _ rfl; have y21 := cells_at f2 1 _ rfl; have z21 := frozen_at f2 1; have g1 := heap_setCell_same _ _ 1 _ _ (.string ⟨#[]⟩) f2; have bX1 := (HE0.out.2.trans (b2.mono HE0.out.2.size)).setCell (p := ⟨wr.heap.size, 1, none⟩) (Nat.le_refl _) (.string ⟨#[]⟩); have HE1 := hide (And.intro g1 bX1); clear f2 g1 bX1 b2))
            go_ret2
            exact rd6_no HN.out (HM.out.2.trans (HE1.out.2.mono HM.out.2.size))
          | some z1 =>
            obtain ⟨p, r1⟩ := z1
            rw [hw1] at HW1
            simp only at HW1
            have hl1 := word6M_len hw1
            cases hv : decVal6 r1 with
            | none =>
              have HN : Hid (rdL b = none) := hide (HRL.out.1 (HA0.out.stop (by simp only [rdEv, hw1, if_neg hx1, rdVal, hv])))
              go_wp2_with (first
                | (go_at_call 44; refine HW1.out.mono ?_; clear HW1; rintro e w2 ⟨b2, a2, c2, rfl, h2⟩; have f2 := (b2.block _ (Array.getElem?_eq_some_iff.1 HE0.out.1).1).trans HE0.out.1; have y20 := cells_at f2 0 _ rfl; have y21 := cells_at f2 1 _ rfl; have z21 := frozen_at f2 1; have g1 := heap_setCell_same _ _ 1 _ _ (.string (bsN p)) f2; have bX1 := (HE0.out.2.trans (b2.mono HE0.out.2.size)).setCell (p := ⟨wr.heap.size, 1, none⟩) (Nat.le_refl _) (.string (bsN p)); have HE1 := hide (And.intro g1 bX1); have HV := hide (HVD.out _ bX1 _ _ _ h2 (by omega)); rw [hv] at HV; simp only at HV; clear f2 g1 bX1 b2 h2)
                | (go_at_call 45; refine HV.out.mono ?_; clear HV; rintro e w6 ⟨b6, rfl⟩; have B6 := hide ((HE1.out.2.trans (b6.mono HE1.out.2.size)).alloc (HE1.out.2.trans (b6.mono HE1.out.2.size)).size (.cells zcells 46)); clear b6))
              go_ret2
              exact rd6_no HN.out (HM.out.2.trans (B6.out.mono HM.out.2.size))
            | some zv =>
              obtain ⟨⟨vk, vi, vm, vt, vl⟩, m⟩ := zv
              have hmr : m ≤ r1.length := (decVal6_ok hv).2.2
              have hrd : rdEv (x :: t) = some (⟨(x.toNat : Int), p, [], [], ⟨vk, vi, vm, vt, vl⟩, 0, 0, 0⟩, r1.drop m) := by simp only [rdEv, hw1, if_neg hx1, rdVal, hv]
              have hok := rdEv_ok (by rw [List.length_cons]; omega) hrd
              have HA := hide (HA0.out.next hrd)
              rw [hxn] at hok HA
              clear hrd
              go_wp2_with (first
                | (go_at_call 44; refine HW1.out.mono ?_; clear HW1; rintro e w2 ⟨b2, a2, c2, rfl, h2⟩; have f2 := (b2.block _ (Array.getElem?_eq_some_iff.1 HE0.out.1).1).trans HE0.out.1; have y20 := cells_at f2 0 _ rfl; have y21 := cells_at f2 1 _ rfl; have z21 := frozen_at f2 1; have g1 := heap_setCell_same _ _ 1 _ _ (.string (bsN p)) f2; have bX1 := (HE0.out.2.trans (b2.mono HE0.out.2.size)).setCell (p := ⟨wr.heap.size, 1, none⟩) (Nat.le_refl _) (.string (bsN p)); have HE1 := hide (And.intro g1 bX1); have HV := hide (HVD.out _ bX1 _ _ _ h2 (by omega)); rw [hv] at HV; simp only at HV; obtain ⟨a9, c9, hsl9, hB9⟩ := slice_low w .i64 _ _ h2 m hmr; have HB9 := hide hB9; clear hB9; clear f2 g1 bX1 b2 h2)
                | (go_at_call 45; refine HV.out.mono ?_; clear HV; rintro e w6 ⟨b6, s6, rfl, i6⟩; obtain ⟨sa, sc, rfl, _⟩ := i6.len; have l6 := (Array.getElem?_eq_some_iff.1 HE1.out.1).1; obtain ⟨W6, hW6⟩ : ∃ W6, w6.alloc (.cells #[.int .i64 vk, .int .i64 vi, .int .i64 vm, .string vt, .slice sa vl.length sc] 46) = W6 := ⟨_, rfl⟩; have bA : Below w6.heap.size w6 W6 := (by rw [← hW6]; exact alloc_v (Below.refl _ _) _); have zA : W6.heap.size = w6.heap.size + 1 := (by rw [← hW6]; simp); have f6 := (bA.block _ (Nat.lt_of_lt_of_le l6 b6.size)).trans ((b6.block _ l6).trans HE1.out.1); have d6 : W6.heap[w6.heap.size]? = some (.cells #[.int .i64 vk, .int .i64 vi, .int .i64 vm, .string vt, .slice sa vl.length sc] 46 (0, 0)) := (by rw [← hW6]; exact World.alloc_heap_new w6 _); have q0 := cells_at f6 0 _ rfl; have q1 := cells_at f6 1 _ rfl; have q2 := cells_at f6 2 _ rfl; have q3 := cells_at f6 3 _ rfl; have q4 := cells_at f6 4 _ rfl; have q5 := cells_at f6 5 _ rfl; have q6 := cells_at f6 6 _ rfl; have q7 := cells_at f6 7 _ rfl; have q8 := cells_at f6 8 _ rfl; have q9 := cells_at f6 9 _ rfl; have q10 := cells_at f6 10 _ rfl; have q11 := cells_at f6 11 _ rfl; have u4z := frozen_at f6 4; have u5z := frozen_at f6 5; have u6z := frozen_at f6 6; have u7z := frozen_at f6 7; have u8z := frozen_at f6 8; have d60 := cells_at d6 0 _ rfl; have d61 := cells_at d6 1 _ rfl; have d62 := cells_at d6 2 _ rfl; have d63 := cells_at d6 3 _ rfl; have d64 := cells_at d6 4 _ rfl; have bQ := HE1.out.2.trans ((b6.trans (bA.mono b6.size)).mono HE1.out.2.size); have iQ : ItemsIn W6 (fun b => wr.heap.size < b ∧ b < W6.heap.size) 16 (.slice sa vl.length sc) vl := i6.kept (fun b o hb => bA.cell (p := ⟨b, o, none⟩) hb.2) (fun b hb => ⟨Nat.lt_of_lt_of_le l6 hb.1, by omega⟩); have HQ := hide (dc_push (x := ⟨xn, p, [], [], ⟨vk, vi, vm, vt, vl⟩, 0, 0, 0⟩) HM.out.1 HM.out.2 bQ zA (Nat.lt_of_lt_of_le l6 (by have := b6.size; omega)) iQ hok.1.1 hok.1.2.2.2.1 (by omega) [.int .i64 vk, .int .i64 vi, .int .i64 vm, .string vt, .slice sa vl.length sc] _ rfl); obtain ⟨g, cap, w7, hrn, mk7, b7⟩ := HQ.out; simp only [putN, Nat.reduceAdd] at hrn; have HRN := hide hrn; have H7 := hide (And.intro mk7 b7); clear i6 b6 bA zA f6 d6 bQ iQ HQ hrn mk7 b7; subst hW6)
                | (at_builtin; refine Lib.wpList_append_run _ rfl (.tmp 87) (.tmp 89) 22 22 rfl _ _ rfl rfl _ _ HRN.out ?_; clear HRN))
              go_roundw
              case rel => exact ⟨k + 1, r1.drop m, _, a9, c9, by omega, by go_num, by rw [List.length_drop], by have := HB9.out; rw [List.length_drop]; exact this, H7.out.1, by rw [List.length_append, List.length_cons, List.length_nil]; have := hok.2; rw [List.length_cons] at this; omega, by rw [hj']; exact HA.out, H7.out.2⟩
              case measure => simp [Lib.intOf]; omega
    · obtain rfl : k = n := by omega
      rw [Nat.sub_self] at hA
      have hrl : rdL b = some acc := HRL.out.2 _ _ hA.done
      obtain ⟨va, vc, rfl⟩ := hM.len
      have hal := (rdL_ok hb hrl).2
      have hev := hM.evs (by omega)
      have HEN := hide (refEncode6_k acc wr 16 (.slice va acc.length vc) hev (enc_ok hev (by omega)))
      have HONE := hide (fun (e : Ending) (U' : World) (h : EncR wr acc e U') => h.oneR)
      have HBR := hide (bytes_at HB.out (Nat.le_refl _) hbel)
      have HM := hide (And.intro hM hbel)
      have HF := hide hrl
      have hkk : ¬ ((k : Int) < (k : Int)) := by omega
      clear hA hM hbel hBr hrl hev
      cases hr : acc.all rightE with
      | false =>
        rw [hr] at HONE
        simp only [cond_false] at HONE
        go_wp2_with (go_at_call 16; refine HEN.out.mono ?_; clear HEN; rintro e w3 hE3; obtain ⟨cv, rfl, _, b3⟩ := HONE.out _ _ hE3; clear hE3; have B3 := hide b3; clear b3)
        go_ret2
        refine ⟨HM.out.2.trans (B3.out.mono HM.out.2.size), ?_⟩
        rw [HF.out]
        simp only
        rw [if_neg (fun h => by rw [hr] at h; cases h.1)]
        rfl
      | true =>
        rw [hr] at HONE
        simp only [cond_true] at HONE
        by_cases he : encL acc = b
        · rw [he] at HONE
          go_wp2_with (go_at_call 16; refine HEN.out.mono ?_; clear HEN; rintro e w3 hE3; obtain ⟨cv, rfl, R3, b3⟩ := HONE.out _ _ hE3; clear hE3; have hcc := conv_bytes (ownsRow_bytes R3).2.plain; have hcb := conv_bytes (bytes_at HBR.out HM.out.2.size b3).plain; have B3 := hide b3; clear b3 R3)
          go_ret2
          refine ⟨HM.out.2.trans (B3.out.mono HM.out.2.size), ?_⟩
          rw [HF.out]
          simp only
          rw [if_pos ⟨hr, he⟩]
          exact ⟨_, rfl, HM.out.1.far B3.out.size (fun k _ h => B3.out.block k h)⟩
        · have hne : ((bytesOf (encL acc)).toList == (bytesOf b).toList) = false := by
            rw [show (bytesOf (encL acc)).toList = encL acc from bsN_toList _, show (bytesOf b).toList = b from bsN_toList b]
            simpa using he
          generalize hEL : encL acc = EL at *
          go_wp2_with (go_at_call 16; refine HEN.out.mono ?_; clear HEN; rintro e w3 hE3; obtain ⟨cv, rfl, R3, b3⟩ := HONE.out _ _ hE3; clear hE3; have hcc := conv_bytes (ownsRow_bytes R3).2.plain; have hcb := conv_bytes (bytes_at HBR.out HM.out.2.size b3).plain; have B3 := hide b3; clear b3 R3)
          go_ret2
          refine ⟨HM.out.2.trans (B3.out.mono HM.out.2.size), ?_⟩
          rw [HF.out]
          simp only
          rw [if_neg (fun h => he (hEL ▸ h.2))]
          rfl
end Go.Proofs.YtcedpdneanjbkaaGreatDoor

/- The reference's Same of events. -/
namespace Go.Proofs.YtcedpdneanjbkaaGreatDoor
open Go.RowKit
open Go.Lib (intOf)

theorem simR_eq (x y : Evn) : simB x y = ((x.kind == y.kind) && ((x.proc == y.proc) && ((x.obj == y.obj) && ((x.op == y.op) && (rightV x.val && (rightV y.val && decide (ordV x.val y.val = 0))))))) := by
  unfold simB
  congr 4
  cases hr : rightV x.val with
  | false => rfl
  | true =>
    by_cases hz : ordV x.val y.val = 0
    · have e := ordV_zero hz
      rw [e] at hr hz
      simp [e, hr, hz]
    · simp [hz]
theorem two_new (u : World) (o1 o2 : Obj) : ((u.alloc o1).alloc o2).heap[u.heap.size]? = some o1 ∧ ((u.alloc o1).alloc o2).heap[u.heap.size + 1]? = some o2 := by
  refine ⟨(Below.heap_alloc _ _ _ (by simp)).trans (World.alloc_heap_new u _), ?_⟩
  have := World.alloc_heap_new (u.alloc o1) o2
  rwa [World.size_alloc] at this
set_option maxRecDepth 100000 in
set_option maxHeartbeats 4000000 in
theorem refSame6_k (l r : List Evn) (w : World) (n m : Nat) (sa sb : Value) (ha : EvsAt w w.heap.size n sa l) (hb : EvsAt w w.heap.size m sb r) :
    Calls Tryz.prog 13 #[sa, sb] w fun e w' => e = .returned (.bool (sameB l r)) ∧ Below w.heap.size w w' := by
  obtain ⟨aa, ca, rfl, hla⟩ := ha.len
  obtain ⟨ab, cb, rfl, hlb⟩ := hb.len
  have HA := hide ha
  have HB := hide hb
  clear ha hb
  by_cases hl : l.length = r.length
  rotate_left
  · have hne : ((l.length : Int) != (r.length : Int)) = true := by simp; omega
    rw [sameB_len hl]
    clear hl
    go_enter Tryz.func13, Tryz.ntmps13
    go_wp2
    go_ret
    exact ⟨rfl, Below.refl _ _⟩
  have hne : ((l.length : Int) != (r.length : Int)) = false := by simp; omega
  have HL := hide hl
  clear hl
  go_enter Tryz.func13, Tryz.ntmps13
  go_wp2
  clear hne
  go_loopw [5] (fun i wr => ∃ k : Nat, k ≤ l.length ∧ i = .int .i64 k ∧ simTo l r k ∧ Below w.heap.size w wr) (fun i _ => l.length - (intOf i).toNat)
  case atStart => exact ⟨0, Nat.zero_le _, rfl, fun j _ _ h => absurd h (by omega), Below.refl _ _⟩
  case round =>
    obtain ⟨k, hk, rfl, hz, hbel⟩ := hrel
    by_cases hlt : k < l.length
    · have hlr : k < r.length := by have := HL.out; omega
      obtain ⟨b1, o1, s1, rfl, g1, p0, p1, p2, p3, p4, p5, p6, p7, p8, p9, p10, p11, p12, p13, p14⟩ := (HA.out.below hbel).item k hlt
      obtain ⟨b2, o2, s2, rfl, g2, q0, q1, q2, q3, q4, q5, q6, q7, q8, q9, q10, q11, q12, q13, q14⟩ := (HB.out.below hbel).item k hlr
      have l1 : b1 < wr.heap.size := by have := hbel.size; omega
      have l2 : b2 < wr.heap.size := by have := hbel.size; omega
      clear g1 g2
      obtain ⟨x1, y1, rfl, _⟩ := p12.len
      obtain ⟨x2, y2, rfl, _⟩ := q12.len
      have P12 := hide p12
      have Q12 := hide q12
      have PV := hide p13
      have QV := hide q13
      clear p12 q12 p13 q13
      go_wp2
      have HS := hide (fun (U : World) (b : Below wr.heap.size wr U) => b)
      refine Code.wp_mono (Q := fun e a U => e = .normal ∧ ∃ X Y : Nat, a = ⟨#[.slice (some ⟨b1, o1, none⟩) l.length ca, .slice (some ⟨b2, o2, none⟩) r.length cb, undef, undef, u4, .int .i64 k, .pointer (some ⟨X, 0, none⟩), .pointer (some ⟨Y, 0, none⟩), .slice (some ⟨b1, o1, none⟩) l.length ca, .int .i64 l.length, .slice (some ⟨b2, o2, none⟩) r.length cb, .int .i64 r.length, .bool false, .int .i64 k, .slice (some ⟨b1, o1, none⟩) l.length ca, .int .i64 l.length, .bool true, u17, u18, .slice (some ⟨b1, o1, none⟩) l.length ca, .int .i64 k, .pointer (some ⟨b1, o1 + k * 12, none⟩), .agg (evCells l[k] (.slice x1 l[k].val.items.length y1)), .slice (some ⟨b2, o2, none⟩) r.length cb, .int .i64 k, .pointer (some ⟨b2, o2 + k * 12, none⟩), .agg (evCells r[k] (.slice x2 r[k].val.items.length y2)), u27, u28, u29, u30, u31, u32, u33, u34, u35, u36, u37, u38, u39, u40, u41, u42, u43, u44, u45, u46, u47, u48, u49, u50, u51, u52, u53, u54, u55, u56, u57, u58, u59, u60, u61, u62, u63, u64, u65, u66, u67, u68, u69, u70, u71, u72], []⟩ ∧ U.heap[X]? = some (.cells (evCells l[k] (.slice x1 l[k].val.items.length y1)) 50 (0, 0)) ∧ U.heap[Y]? = some (.cells (evCells r[k] (.slice x2 r[k].val.items.length y2)) 50 (0, 0)) ∧ Below wr.heap.size wr U) ?rest
        (wp_region_G 12 (fun U => Below wr.heap.size wr U) (by kernel_rfl) (by kernel_rfl) ?reg6)
      case reg6 =>
        refine wpAnyG_take (i := 0) (v := ?v0) (by kernel_rfl) rfl (by kernel_rfl) (by kernel_rfl) (fun _ _ _ h => by cases h.1) (Or.inl ⟨by rfl, ?hy0⟩) (below_drew (Below.refl _ _)) ?rest0
        case hy0 => intro U hU; go_simp; (try with_reducible rfl)
        case rest0 =>
        (try simp only [Act.put, List.setIfInBounds_toArray])
        refine wpAnyG_take (i := 1) (v := ?v1) (by kernel_rfl) rfl (by kernel_rfl) (by kernel_rfl) (fun _ _ _ h => by cases h.1) (Or.inl ⟨by rfl, ?hy1⟩) (below_drew (Below.refl _ _)) ?rest1
        case hy1 => intro U hU; go_simp; (try with_reducible rfl)
        case rest1 =>
        (try simp only [Act.put])
        refine wpAnyG_take (i := 2) (v := ?v2) (by kernel_rfl) rfl (by kernel_rfl) (by kernel_rfl) (fun _ _ _ h => by cases h.1) (Or.inl ⟨by rfl, ?hy2⟩) (below_drew (Below.refl _ _)) ?rest2
        case hy2 => intro U hU; go_simp; (try with_reducible rfl)
        case rest2 =>
        (try simp only [Act.put])
        refine wpAnyG_take (i := 3) (v := ?v3) (by kernel_rfl) rfl (by kernel_rfl) (by kernel_rfl) (fun _ _ _ h => by cases h.1) (Or.inl ⟨by rfl, ?hy3⟩) (below_drew (Below.refl _ _)) ?rest3
        case hy3 => intro U hU; have up0 := (hU.cell (p := ⟨b1, o1 + k * 12, none⟩) l1).trans p0; have up1 := (hU.cell (p := ⟨b1, o1 + k * 12 + 1, none⟩) l1).trans p1; have up2 := (hU.cell (p := ⟨b1, o1 + k * 12 + 2, none⟩) l1).trans p2; have up3 := (hU.cell (p := ⟨b1, o1 + k * 12 + 3, none⟩) l1).trans p3; have up4 := (hU.cell (p := ⟨b1, o1 + k * 12 + 4, none⟩) l1).trans p4; have up5 := (hU.cell (p := ⟨b1, o1 + k * 12 + 5, none⟩) l1).trans p5; have up6 := (hU.cell (p := ⟨b1, o1 + k * 12 + 6, none⟩) l1).trans p6; have up7 := (hU.cell (p := ⟨b1, o1 + k * 12 + 7, none⟩) l1).trans p7; have up8 := (hU.cell (p := ⟨b1, o1 + k * 12 + 8, none⟩) l1).trans p8; have up9 := (hU.cell (p := ⟨b1, o1 + k * 12 + 9, none⟩) l1).trans p9; have up10 := (hU.cell (p := ⟨b1, o1 + k * 12 + 10, none⟩) l1).trans p10; have up11 := (hU.cell (p := ⟨b1, o1 + k * 12 + 11, none⟩) l1).trans p11; go_simp; (try with_reducible rfl)
        case rest3 =>
        (try simp only [Act.put])
        refine wpAnyG_take (i := 4) (v := ?v4) (by kernel_rfl) rfl (by kernel_rfl) (by kernel_rfl) (fun _ _ _ h => by cases h.1) (Or.inl ⟨by rfl, ?hy4⟩) (below_drew (Below.refl _ _)) ?rest4
        case hy4 => intro U hU; go_simp; (try with_reducible rfl)
        case rest4 =>
        (try simp only [Act.put])
        refine wpAnyG_take (i := 5) (v := ?v5) (by kernel_rfl) rfl (by kernel_rfl) (by kernel_rfl) (fun _ _ _ h => by cases h.1) (Or.inl ⟨by rfl, ?hy5⟩) (below_drew (Below.refl _ _)) ?rest5
        case hy5 => intro U hU; go_simp; (try with_reducible rfl)
        case rest5 =>
        (try simp only [Act.put])
        refine wpAnyG_take (i := 6) (v := ?v6) (by kernel_rfl) rfl (by kernel_rfl) (by kernel_rfl) (fun _ _ _ h => by cases h.1) (Or.inl ⟨by rfl, ?hy6⟩) (below_drew (Below.refl _ _)) ?rest6
        case hy6 => intro U hU; go_simp; (try with_reducible rfl)
        case rest6 =>
        (try simp only [Act.put])
        refine wpAnyG_take (i := 7) (v := ?v7) (by kernel_rfl) rfl (by kernel_rfl) (by kernel_rfl) (fun _ _ _ h => by cases h.1) (Or.inl ⟨by rfl, ?hy7⟩) (below_drew (Below.refl _ _)) ?rest7
        case hy7 => intro U hU; have uq0 := (hU.cell (p := ⟨b2, o2 + k * 12, none⟩) l2).trans q0; have uq1 := (hU.cell (p := ⟨b2, o2 + k * 12 + 1, none⟩) l2).trans q1; have uq2 := (hU.cell (p := ⟨b2, o2 + k * 12 + 2, none⟩) l2).trans q2; have uq3 := (hU.cell (p := ⟨b2, o2 + k * 12 + 3, none⟩) l2).trans q3; have uq4 := (hU.cell (p := ⟨b2, o2 + k * 12 + 4, none⟩) l2).trans q4; have uq5 := (hU.cell (p := ⟨b2, o2 + k * 12 + 5, none⟩) l2).trans q5; have uq6 := (hU.cell (p := ⟨b2, o2 + k * 12 + 6, none⟩) l2).trans q6; have uq7 := (hU.cell (p := ⟨b2, o2 + k * 12 + 7, none⟩) l2).trans q7; have uq8 := (hU.cell (p := ⟨b2, o2 + k * 12 + 8, none⟩) l2).trans q8; have uq9 := (hU.cell (p := ⟨b2, o2 + k * 12 + 9, none⟩) l2).trans q9; have uq10 := (hU.cell (p := ⟨b2, o2 + k * 12 + 10, none⟩) l2).trans q10; have uq11 := (hU.cell (p := ⟨b2, o2 + k * 12 + 11, none⟩) l2).trans q11; go_simp; (try with_reducible rfl)
        case rest7 =>
        (try simp only [Act.put])
        refine wpAnyG_two (i := 8) (j := 9) (by kernel_rfl) rfl rfl (fun K8 hK8 => ?pa) (fun K8 hK8 => ?pb)
        case pa =>
          go_simp
          refine hK8.out _ _ (below_drew (alloc_v (Below.refl _ _) _)) ?_
          (try simp only [Act.put, List.setIfInBounds_toArray])
          refine wpAnyG_one (i := 9) (by kernel_rfl) rfl (fun K9 hK9 => ?_)
          go_simp
          obtain ⟨V, hV⟩ : ∃ V, ((wr.alloc (.cells #[.int .i64 0, .string ⟨#[]⟩, .string ⟨#[]⟩, .string ⟨#[]⟩, .int .i64 0, .int .i64 0, .int .i64 0, .string ⟨#[]⟩, .slice none 0 0, .int .i64 0, .int .i64 0, .int .i64 0] 50)).alloc (.cells #[.int .i64 0, .string ⟨#[]⟩, .string ⟨#[]⟩, .string ⟨#[]⟩, .int .i64 0, .int .i64 0, .int .i64 0, .string ⟨#[]⟩, .slice none 0 0, .int .i64 0, .int .i64 0, .int .i64 0] 50)).drew = V := ⟨_, rfl⟩
          have bV : Below wr.heap.size wr V := by rw [← hV]; exact below_drew (alloc_v (alloc_v (Below.refl _ _) _) _)
          have eX : V.heap[wr.heap.size]? = some (.cells #[.int .i64 0, .string ⟨#[]⟩, .string ⟨#[]⟩, .string ⟨#[]⟩, .int .i64 0, .int .i64 0, .int .i64 0, .string ⟨#[]⟩, .slice none 0 0, .int .i64 0, .int .i64 0, .int .i64 0] 50 (0, 0)) := by rw [← hV]; exact (two_new wr _ _).1
          have eY : V.heap[wr.heap.size + 1]? = some (.cells #[.int .i64 0, .string ⟨#[]⟩, .string ⟨#[]⟩, .string ⟨#[]⟩, .int .i64 0, .int .i64 0, .int .i64 0, .string ⟨#[]⟩, .slice none 0 0, .int .i64 0, .int .i64 0, .int .i64 0] 50 (0, 0)) := by rw [← hV]; exact (two_new wr _ _).2
          rw [hV]
          refine hK9.out _ _ bV ?_
          (try simp only [Act.put, List.setIfInBounds_toArray])
          skip
          have gx0 := cells_at eX 0 _ rfl
          have hx0 := frozen_at eX 0
          have gx1 := cells_at eX 1 _ rfl
          have hx1 := frozen_at eX 1
          have gx2 := cells_at eX 2 _ rfl
          have hx2 := frozen_at eX 2
          have gx3 := cells_at eX 3 _ rfl
          have hx3 := frozen_at eX 3
          have gx4 := cells_at eX 4 _ rfl
          have hx4 := frozen_at eX 4
          have gx5 := cells_at eX 5 _ rfl
          have hx5 := frozen_at eX 5
          have gx6 := cells_at eX 6 _ rfl
          have hx6 := frozen_at eX 6
          have gx7 := cells_at eX 7 _ rfl
          have hx7 := frozen_at eX 7
          have gx8 := cells_at eX 8 _ rfl
          have hx8 := frozen_at eX 8
          have gx9 := cells_at eX 9 _ rfl
          have hx9 := frozen_at eX 9
          have gx10 := cells_at eX 10 _ rfl
          have hx10 := frozen_at eX 10
          have gx11 := cells_at eX 11 _ rfl
          have hx11 := frozen_at eX 11
          refine wpAnyG_one (i := 10) (by kernel_rfl) rfl (fun K10 hK10 => ?_)
          go_simp
          have eX2 := putN_at [.int .i64 l[k].kind, .string (bsN l[k].proc), .string (bsN l[k].obj), .string (bsN l[k].op), .int .i64 l[k].val.kind, .int .i64 l[k].val.int, .int .i64 l[k].val.im, .string l[k].val.text, (.slice x1 l[k].val.items.length y1), .int .i64 l[k].off, .int .i64 l[k].line, .int .i64 l[k].col] 0 V _ eX rfl
          have eY2 := (putN_other (b := wr.heap.size) (k := wr.heap.size + 1) (by omega) [.int .i64 l[k].kind, .string (bsN l[k].proc), .string (bsN l[k].obj), .string (bsN l[k].op), .int .i64 l[k].val.kind, .int .i64 l[k].val.int, .int .i64 l[k].val.im, .string l[k].val.text, (.slice x1 l[k].val.items.length y1), .int .i64 l[k].off, .int .i64 l[k].line, .int .i64 l[k].col] 0 V).trans eY
          have gP := putN_far (grown_of_below (r := none) bV) (b := wr.heap.size) (by omega) [.int .i64 l[k].kind, .string (bsN l[k].proc), .string (bsN l[k].obj), .string (bsN l[k].op), .int .i64 l[k].val.kind, .int .i64 l[k].val.int, .int .i64 l[k].val.im, .string l[k].val.text, (.slice x1 l[k].val.items.length y1), .int .i64 l[k].off, .int .i64 l[k].line, .int .i64 l[k].col] 0
          obtain ⟨V2, hV2⟩ : ∃ V2, putN V (wr.heap.size) 0 [.int .i64 l[k].kind, .string (bsN l[k].proc), .string (bsN l[k].obj), .string (bsN l[k].op), .int .i64 l[k].val.kind, .int .i64 l[k].val.int, .int .i64 l[k].val.im, .string l[k].val.text, (.slice x1 l[k].val.items.length y1), .int .i64 l[k].off, .int .i64 l[k].line, .int .i64 l[k].col] = V2 := ⟨_, rfl⟩
          rw [hV2] at eX2 eY2 gP
          have bV2 : Below wr.heap.size wr V2 := ⟨gP.os, gP.tape, gP.output, gP.size, fun k hk => gP.block k hk (by simp)⟩
          have hv2 := hK10.out
          clear gx0 hx0 gx1 hx1 gx2 hx2 gx3 hx3 gx4 hx4 gx5 hx5 gx6 hx6 gx7 hx7 gx8 hx8 gx9 hx9 gx10 hx10 gx11 hx11
          have gy0 := cells_at eY2 0 _ rfl
          have hy0 := frozen_at eY2 0
          have gy1 := cells_at eY2 1 _ rfl
          have hy1 := frozen_at eY2 1
          have gy2 := cells_at eY2 2 _ rfl
          have hy2 := frozen_at eY2 2
          have gy3 := cells_at eY2 3 _ rfl
          have hy3 := frozen_at eY2 3
          have gy4 := cells_at eY2 4 _ rfl
          have hy4 := frozen_at eY2 4
          have gy5 := cells_at eY2 5 _ rfl
          have hy5 := frozen_at eY2 5
          have gy6 := cells_at eY2 6 _ rfl
          have hy6 := frozen_at eY2 6
          have gy7 := cells_at eY2 7 _ rfl
          have hy7 := frozen_at eY2 7
          have gy8 := cells_at eY2 8 _ rfl
          have hy8 := frozen_at eY2 8
          have gy9 := cells_at eY2 9 _ rfl
          have hy9 := frozen_at eY2 9
          have gy10 := cells_at eY2 10 _ rfl
          have hy10 := frozen_at eY2 10
          have gy11 := cells_at eY2 11 _ rfl
          have hy11 := frozen_at eY2 11
          skip
          have h10 : ∀ a, wpAnyG _ _ _ _ _ _ _ a V2 → K10 a V2 := fun a h => hv2 a V2 bV2 h
          change K10 _ (putN V (wr.heap.size) 0 [.int .i64 l[k].kind, .string (bsN l[k].proc), .string (bsN l[k].obj), .string (bsN l[k].op), .int .i64 l[k].val.kind, .int .i64 l[k].val.int, .int .i64 l[k].val.im, .string l[k].val.text, (.slice x1 l[k].val.items.length y1), .int .i64 l[k].off, .int .i64 l[k].line, .int .i64 l[k].col])
          rw [hV2]
          refine h10 _ ?_
          (try simp only [Act.put, List.setIfInBounds_toArray])
          refine wpAnyG_one (i := 11) (by kernel_rfl) rfl (fun K11 hK11 => ?_)
          go_simp
          have eY3 := putN_at [.int .i64 r[k].kind, .string (bsN r[k].proc), .string (bsN r[k].obj), .string (bsN r[k].op), .int .i64 r[k].val.kind, .int .i64 r[k].val.int, .int .i64 r[k].val.im, .string r[k].val.text, (.slice x2 r[k].val.items.length y2), .int .i64 r[k].off, .int .i64 r[k].line, .int .i64 r[k].col] 0 V2 _ eY2 rfl
          have eX3 := (putN_other (b := wr.heap.size + 1) (k := wr.heap.size) (by omega) [.int .i64 r[k].kind, .string (bsN r[k].proc), .string (bsN r[k].obj), .string (bsN r[k].op), .int .i64 r[k].val.kind, .int .i64 r[k].val.int, .int .i64 r[k].val.im, .string r[k].val.text, (.slice x2 r[k].val.items.length y2), .int .i64 r[k].off, .int .i64 r[k].line, .int .i64 r[k].col] 0 V2).trans eX2
          have gP3 := putN_far (grown_of_below (r := none) bV2) (b := wr.heap.size + 1) (by omega) [.int .i64 r[k].kind, .string (bsN r[k].proc), .string (bsN r[k].obj), .string (bsN r[k].op), .int .i64 r[k].val.kind, .int .i64 r[k].val.int, .int .i64 r[k].val.im, .string r[k].val.text, (.slice x2 r[k].val.items.length y2), .int .i64 r[k].off, .int .i64 r[k].line, .int .i64 r[k].col] 0
          have bV3 : Below wr.heap.size wr (putN V2 (wr.heap.size + 1) 0 [.int .i64 r[k].kind, .string (bsN r[k].proc), .string (bsN r[k].obj), .string (bsN r[k].op), .int .i64 r[k].val.kind, .int .i64 r[k].val.int, .int .i64 r[k].val.im, .string r[k].val.text, (.slice x2 r[k].val.items.length y2), .int .i64 r[k].off, .int .i64 r[k].line, .int .i64 r[k].col]) := ⟨gP3.os, gP3.tape, gP3.output, gP3.size, fun k hk => gP3.block k hk (by simp)⟩
          change K11 _ (putN V2 (wr.heap.size + 1) 0 [.int .i64 r[k].kind, .string (bsN r[k].proc), .string (bsN r[k].obj), .string (bsN r[k].op), .int .i64 r[k].val.kind, .int .i64 r[k].val.int, .int .i64 r[k].val.im, .string r[k].val.text, (.slice x2 r[k].val.items.length y2), .int .i64 r[k].off, .int .i64 r[k].line, .int .i64 r[k].col])
          refine hK11.out _ _ bV3 ?_
          refine wpAnyG_end (by kernel_rfl) ?_
          exact ⟨rfl, wr.heap.size, wr.heap.size + 1, rfl, eX3, eY3, bV3⟩
        case pb =>
          go_simp
          refine hK8.out _ _ (below_drew (alloc_v (Below.refl _ _) _)) ?_
          (try simp only [Act.put, List.setIfInBounds_toArray])
          refine wpAnyG_one (i := 8) (by kernel_rfl) rfl (fun K9 hK9 => ?_)
          go_simp
          obtain ⟨V, hV⟩ : ∃ V, ((wr.alloc (.cells #[.int .i64 0, .string ⟨#[]⟩, .string ⟨#[]⟩, .string ⟨#[]⟩, .int .i64 0, .int .i64 0, .int .i64 0, .string ⟨#[]⟩, .slice none 0 0, .int .i64 0, .int .i64 0, .int .i64 0] 50)).alloc (.cells #[.int .i64 0, .string ⟨#[]⟩, .string ⟨#[]⟩, .string ⟨#[]⟩, .int .i64 0, .int .i64 0, .int .i64 0, .string ⟨#[]⟩, .slice none 0 0, .int .i64 0, .int .i64 0, .int .i64 0] 50)).drew = V := ⟨_, rfl⟩
          have bV : Below wr.heap.size wr V := by rw [← hV]; exact below_drew (alloc_v (alloc_v (Below.refl _ _) _) _)
          have eY : V.heap[wr.heap.size]? = some (.cells #[.int .i64 0, .string ⟨#[]⟩, .string ⟨#[]⟩, .string ⟨#[]⟩, .int .i64 0, .int .i64 0, .int .i64 0, .string ⟨#[]⟩, .slice none 0 0, .int .i64 0, .int .i64 0, .int .i64 0] 50 (0, 0)) := by rw [← hV]; exact (two_new wr _ _).1
          have eX : V.heap[wr.heap.size + 1]? = some (.cells #[.int .i64 0, .string ⟨#[]⟩, .string ⟨#[]⟩, .string ⟨#[]⟩, .int .i64 0, .int .i64 0, .int .i64 0, .string ⟨#[]⟩, .slice none 0 0, .int .i64 0, .int .i64 0, .int .i64 0] 50 (0, 0)) := by rw [← hV]; exact (two_new wr _ _).2
          rw [hV]
          refine hK9.out _ _ bV ?_
          (try simp only [Act.put, List.setIfInBounds_toArray])
          skip
          have gx0 := cells_at eX 0 _ rfl
          have hx0 := frozen_at eX 0
          have gx1 := cells_at eX 1 _ rfl
          have hx1 := frozen_at eX 1
          have gx2 := cells_at eX 2 _ rfl
          have hx2 := frozen_at eX 2
          have gx3 := cells_at eX 3 _ rfl
          have hx3 := frozen_at eX 3
          have gx4 := cells_at eX 4 _ rfl
          have hx4 := frozen_at eX 4
          have gx5 := cells_at eX 5 _ rfl
          have hx5 := frozen_at eX 5
          have gx6 := cells_at eX 6 _ rfl
          have hx6 := frozen_at eX 6
          have gx7 := cells_at eX 7 _ rfl
          have hx7 := frozen_at eX 7
          have gx8 := cells_at eX 8 _ rfl
          have hx8 := frozen_at eX 8
          have gx9 := cells_at eX 9 _ rfl
          have hx9 := frozen_at eX 9
          have gx10 := cells_at eX 10 _ rfl
          have hx10 := frozen_at eX 10
          have gx11 := cells_at eX 11 _ rfl
          have hx11 := frozen_at eX 11
          refine wpAnyG_one (i := 10) (by kernel_rfl) rfl (fun K10 hK10 => ?_)
          go_simp
          have eX2 := putN_at [.int .i64 l[k].kind, .string (bsN l[k].proc), .string (bsN l[k].obj), .string (bsN l[k].op), .int .i64 l[k].val.kind, .int .i64 l[k].val.int, .int .i64 l[k].val.im, .string l[k].val.text, (.slice x1 l[k].val.items.length y1), .int .i64 l[k].off, .int .i64 l[k].line, .int .i64 l[k].col] 0 V _ eX rfl
          have eY2 := (putN_other (b := wr.heap.size + 1) (k := wr.heap.size) (by omega) [.int .i64 l[k].kind, .string (bsN l[k].proc), .string (bsN l[k].obj), .string (bsN l[k].op), .int .i64 l[k].val.kind, .int .i64 l[k].val.int, .int .i64 l[k].val.im, .string l[k].val.text, (.slice x1 l[k].val.items.length y1), .int .i64 l[k].off, .int .i64 l[k].line, .int .i64 l[k].col] 0 V).trans eY
          have gP := putN_far (grown_of_below (r := none) bV) (b := wr.heap.size + 1) (by omega) [.int .i64 l[k].kind, .string (bsN l[k].proc), .string (bsN l[k].obj), .string (bsN l[k].op), .int .i64 l[k].val.kind, .int .i64 l[k].val.int, .int .i64 l[k].val.im, .string l[k].val.text, (.slice x1 l[k].val.items.length y1), .int .i64 l[k].off, .int .i64 l[k].line, .int .i64 l[k].col] 0
          obtain ⟨V2, hV2⟩ : ∃ V2, putN V (wr.heap.size + 1) 0 [.int .i64 l[k].kind, .string (bsN l[k].proc), .string (bsN l[k].obj), .string (bsN l[k].op), .int .i64 l[k].val.kind, .int .i64 l[k].val.int, .int .i64 l[k].val.im, .string l[k].val.text, (.slice x1 l[k].val.items.length y1), .int .i64 l[k].off, .int .i64 l[k].line, .int .i64 l[k].col] = V2 := ⟨_, rfl⟩
          rw [hV2] at eX2 eY2 gP
          have bV2 : Below wr.heap.size wr V2 := ⟨gP.os, gP.tape, gP.output, gP.size, fun k hk => gP.block k hk (by simp)⟩
          have hv2 := hK10.out
          clear gx0 hx0 gx1 hx1 gx2 hx2 gx3 hx3 gx4 hx4 gx5 hx5 gx6 hx6 gx7 hx7 gx8 hx8 gx9 hx9 gx10 hx10 gx11 hx11
          have gy0 := cells_at eY2 0 _ rfl
          have hy0 := frozen_at eY2 0
          have gy1 := cells_at eY2 1 _ rfl
          have hy1 := frozen_at eY2 1
          have gy2 := cells_at eY2 2 _ rfl
          have hy2 := frozen_at eY2 2
          have gy3 := cells_at eY2 3 _ rfl
          have hy3 := frozen_at eY2 3
          have gy4 := cells_at eY2 4 _ rfl
          have hy4 := frozen_at eY2 4
          have gy5 := cells_at eY2 5 _ rfl
          have hy5 := frozen_at eY2 5
          have gy6 := cells_at eY2 6 _ rfl
          have hy6 := frozen_at eY2 6
          have gy7 := cells_at eY2 7 _ rfl
          have hy7 := frozen_at eY2 7
          have gy8 := cells_at eY2 8 _ rfl
          have hy8 := frozen_at eY2 8
          have gy9 := cells_at eY2 9 _ rfl
          have hy9 := frozen_at eY2 9
          have gy10 := cells_at eY2 10 _ rfl
          have hy10 := frozen_at eY2 10
          have gy11 := cells_at eY2 11 _ rfl
          have hy11 := frozen_at eY2 11
          skip
          have h10 : ∀ a, wpAnyG _ _ _ _ _ _ _ a V2 → K10 a V2 := fun a h => hv2 a V2 bV2 h
          change K10 _ (putN V (wr.heap.size + 1) 0 [.int .i64 l[k].kind, .string (bsN l[k].proc), .string (bsN l[k].obj), .string (bsN l[k].op), .int .i64 l[k].val.kind, .int .i64 l[k].val.int, .int .i64 l[k].val.im, .string l[k].val.text, (.slice x1 l[k].val.items.length y1), .int .i64 l[k].off, .int .i64 l[k].line, .int .i64 l[k].col])
          rw [hV2]
          refine h10 _ ?_
          (try simp only [Act.put, List.setIfInBounds_toArray])
          refine wpAnyG_one (i := 11) (by kernel_rfl) rfl (fun K11 hK11 => ?_)
          go_simp
          have eY3 := putN_at [.int .i64 r[k].kind, .string (bsN r[k].proc), .string (bsN r[k].obj), .string (bsN r[k].op), .int .i64 r[k].val.kind, .int .i64 r[k].val.int, .int .i64 r[k].val.im, .string r[k].val.text, (.slice x2 r[k].val.items.length y2), .int .i64 r[k].off, .int .i64 r[k].line, .int .i64 r[k].col] 0 V2 _ eY2 rfl
          have eX3 := (putN_other (b := wr.heap.size) (k := wr.heap.size + 1) (by omega) [.int .i64 r[k].kind, .string (bsN r[k].proc), .string (bsN r[k].obj), .string (bsN r[k].op), .int .i64 r[k].val.kind, .int .i64 r[k].val.int, .int .i64 r[k].val.im, .string r[k].val.text, (.slice x2 r[k].val.items.length y2), .int .i64 r[k].off, .int .i64 r[k].line, .int .i64 r[k].col] 0 V2).trans eX2
          have gP3 := putN_far (grown_of_below (r := none) bV2) (b := wr.heap.size) (by omega) [.int .i64 r[k].kind, .string (bsN r[k].proc), .string (bsN r[k].obj), .string (bsN r[k].op), .int .i64 r[k].val.kind, .int .i64 r[k].val.int, .int .i64 r[k].val.im, .string r[k].val.text, (.slice x2 r[k].val.items.length y2), .int .i64 r[k].off, .int .i64 r[k].line, .int .i64 r[k].col] 0
          have bV3 : Below wr.heap.size wr (putN V2 (wr.heap.size) 0 [.int .i64 r[k].kind, .string (bsN r[k].proc), .string (bsN r[k].obj), .string (bsN r[k].op), .int .i64 r[k].val.kind, .int .i64 r[k].val.int, .int .i64 r[k].val.im, .string r[k].val.text, (.slice x2 r[k].val.items.length y2), .int .i64 r[k].off, .int .i64 r[k].line, .int .i64 r[k].col]) := ⟨gP3.os, gP3.tape, gP3.output, gP3.size, fun k hk => gP3.block k hk (by simp)⟩
          change K11 _ (putN V2 (wr.heap.size) 0 [.int .i64 r[k].kind, .string (bsN r[k].proc), .string (bsN r[k].obj), .string (bsN r[k].op), .int .i64 r[k].val.kind, .int .i64 r[k].val.int, .int .i64 r[k].val.im, .string r[k].val.text, (.slice x2 r[k].val.items.length y2), .int .i64 r[k].off, .int .i64 r[k].line, .int .i64 r[k].col])
          refine hK11.out _ _ bV3 ?_
          refine wpAnyG_end (by kernel_rfl) ?_
          exact ⟨rfl, wr.heap.size + 1, wr.heap.size, rfl, eX3, eY3, bV3⟩
      case rest =>
        rintro e a U ⟨rfl, X, Y, rfl, hX, hY, bU⟩
        have lX := (Array.getElem?_eq_some_iff.1 hX).1
        have lY := (Array.getElem?_eq_some_iff.1 hY).1
        have HE := hide (And.intro hX hY)
        have c0 := cells_at hX 0 _ rfl
        have c1 := cells_at hX 1 _ rfl
        have c2 := cells_at hX 2 _ rfl
        have c3 := cells_at hX 3 _ rfl
        have c4 := cells_at hX 4 _ rfl
        have c5 := cells_at hX 5 _ rfl
        have c6 := cells_at hX 6 _ rfl
        have c7 := cells_at hX 7 _ rfl
        have c8 := cells_at hX 8 _ rfl
        have d0 := cells_at hY 0 _ rfl
        have d1 := cells_at hY 1 _ rfl
        have d2 := cells_at hY 2 _ rfl
        have d3 := cells_at hY 3 _ rfl
        have d4 := cells_at hY 4 _ rfl
        have d5 := cells_at hY 5 _ rfl
        have d6 := cells_at hY 6 _ rfl
        have d7 := cells_at hY 7 _ rfl
        have d8 := cells_at hY 8 _ rfl
        have HRX := hide (fun (V : World) (b : Below U.heap.size U V) => refRight_k l[k].val V n (.slice x1 l[k].val.items.length y1) PV.out.val.1 ((P12.out.below (Below.mono (trans_v bU b) hbel.size)).up (by have := (trans_v bU b).size; have := hbel.size; omega)))
        have HRY := hide (fun (V : World) (b : Below U.heap.size U V) => refRight_k r[k].val V m (.slice x2 r[k].val.items.length y2) QV.out.val.1 ((Q12.out.below (Below.mono (trans_v bU b) hbel.size)).up (by have := (trans_v bU b).size; have := hbel.size; omega)))
        have HSM := hide (fun (V : World) (b : Below U.heap.size U V) => sameV6_k l[k].val r[k].val V w.heap.size n m (.slice x1 l[k].val.items.length y1) (.slice x2 r[k].val.items.length y2) (by have := (trans_v bU b).size; have := hbel.size; omega) (P12.out.below (Below.mono (trans_v bU b) hbel.size)) (Q12.out.below (Below.mono (trans_v bU b) hbel.size)))
        have HZ := hide (fun (h : simB l[k] r[k] = true) => (show simTo l r (k + 1) from fun j h1 h2 h3 => by
          by_cases e : j = k
          · subst e; exact h
          · exact hz j h1 h2 (by omega)))
        have HN := hide (fun (h : simB l[k] r[k] = false) => sameB_no HL.out hlt hlr h)
        have HBU := hide (trans_v hbel bU)
        rw [simR_eq] at HZ HN
        have q1 := sim_eq l[k].proc r[k].proc
        have q2 := sim_eq l[k].obj r[k].obj
        have q3 := sim_eq l[k].op r[k].op
        clear hz P12 Q12 PV QV hbel bU HS hX hY p0 p1 p2 p3 p4 p5 p6 p7 p8 p9 p10 p11 p14 q0 q4 q5 q6 q7 q8 q9 q10 q11 q14 HA HB
        generalize l[k] = x at *
        generalize r[k] = y at *
        generalize hb0 : (x.kind == y.kind) = bb0 at *
        generalize hb1 : (x.proc == y.proc) = bb1 at *
        generalize hb2 : (x.obj == y.obj) = bb2 at *
        generalize hb3 : (x.op == y.op) = bb3 at *
        generalize rightV x.val = rx at *
        generalize rightV y.val = ry at *
        generalize decide (ordV x.val y.val = 0) = zb at *
        cases bb0
        · have hn0 : (x.kind != y.kind) = true := by simp only [bne, hb0]; rfl
          go_wp2
          go_ret
          exact ⟨by rw [HN.out rfl]; rfl, HBU.out⟩
        have hn0 : (x.kind != y.kind) = false := by simp only [bne, hb0]; rfl
        cases bb1
        · have hn1 : ((bsN x.proc).toList != (bsN y.proc).toList) = true := by simp only [bne, q1]; rfl
          go_wp2
          go_ret
          exact ⟨by rw [HN.out rfl]; rfl, HBU.out⟩
        have hn1 : ((bsN x.proc).toList != (bsN y.proc).toList) = false := by simp only [bne, q1]; rfl
        cases bb2
        · have hn2 : ((bsN x.obj).toList != (bsN y.obj).toList) = true := by simp only [bne, q2]; rfl
          go_wp2
          go_ret
          exact ⟨by rw [HN.out rfl]; rfl, HBU.out⟩
        have hn2 : ((bsN x.obj).toList != (bsN y.obj).toList) = false := by simp only [bne, q2]; rfl
        cases bb3
        · have hn3 : ((bsN x.op).toList != (bsN y.op).toList) = true := by simp only [bne, q3]; rfl
          go_wp2
          go_ret
          exact ⟨by rw [HN.out rfl]; rfl, HBU.out⟩
        have hn3 : ((bsN x.op).toList != (bsN y.op).toList) = false := by simp only [bne, q3]; rfl
        cases rx
        · go_wp2_with (go_at_call 29; refine (HRX.out _ (Below.refl _ _)).mono ?_; clear HRX; rintro e w2 ⟨rfl, b2⟩; have f2 := (b2.block _ lY).trans HE.out.2; have k4 := cells_at f2 4 _ rfl; have k5 := cells_at f2 5 _ rfl; have k6 := cells_at f2 6 _ rfl; have k7 := cells_at f2 7 _ rfl; have k8 := cells_at f2 8 _ rfl; have B2 := hide b2; clear f2 b2)
          go_ret
          exact ⟨by rw [HN.out rfl]; rfl, trans_v HBU.out B2.out⟩
        cases ry
        · go_wp2_with (first | (go_at_call 29; refine (HRY.out _ B2.out).mono ?_; clear HRY; rintro e w3 ⟨rfl, b3⟩; have B3 := hide (trans_v B2.out b3); have f3 := (B3.out.block _ lX).trans HE.out.1; have f4 := (B3.out.block _ lY).trans HE.out.2; have m4 := cells_at f3 4 _ rfl; have m5 := cells_at f3 5 _ rfl; have m6 := cells_at f3 6 _ rfl; have m7 := cells_at f3 7 _ rfl; have m8 := cells_at f3 8 _ rfl; have n4 := cells_at f4 4 _ rfl; have n5 := cells_at f4 5 _ rfl; have n6 := cells_at f4 6 _ rfl; have n7 := cells_at f4 7 _ rfl; have n8 := cells_at f4 8 _ rfl; clear f3 f4 b3) | (go_at_call 29; refine (HRX.out _ (Below.refl _ _)).mono ?_; clear HRX; rintro e w2 ⟨rfl, b2⟩; have f2 := (b2.block _ lY).trans HE.out.2; have k4 := cells_at f2 4 _ rfl; have k5 := cells_at f2 5 _ rfl; have k6 := cells_at f2 6 _ rfl; have k7 := cells_at f2 7 _ rfl; have k8 := cells_at f2 8 _ rfl; have B2 := hide b2; clear f2 b2))
          go_ret
          exact ⟨by rw [HN.out rfl]; rfl, trans_v HBU.out B3.out⟩
        cases zb
        · go_wp2_with (first | (go_at_call 29; refine (HRY.out _ B2.out).mono ?_; clear HRY; rintro e w3 ⟨rfl, b3⟩; have B3 := hide (trans_v B2.out b3); have f3 := (B3.out.block _ lX).trans HE.out.1; have f4 := (B3.out.block _ lY).trans HE.out.2; have m4 := cells_at f3 4 _ rfl; have m5 := cells_at f3 5 _ rfl; have m6 := cells_at f3 6 _ rfl; have m7 := cells_at f3 7 _ rfl; have m8 := cells_at f3 8 _ rfl; have n4 := cells_at f4 4 _ rfl; have n5 := cells_at f4 5 _ rfl; have n6 := cells_at f4 6 _ rfl; have n7 := cells_at f4 7 _ rfl; have n8 := cells_at f4 8 _ rfl; clear f3 f4 b3) | (go_at_call 29; refine (HRX.out _ (Below.refl _ _)).mono ?_; clear HRX; rintro e w2 ⟨rfl, b2⟩; have f2 := (b2.block _ lY).trans HE.out.2; have k4 := cells_at f2 4 _ rfl; have k5 := cells_at f2 5 _ rfl; have k6 := cells_at f2 6 _ rfl; have k7 := cells_at f2 7 _ rfl; have k8 := cells_at f2 8 _ rfl; have B2 := hide b2; clear f2 b2) | (go_at_call 30; refine (HSM.out _ B3.out).mono ?_; clear HSM; rintro e w4 ⟨rfl, b4⟩; have B4 := hide (trans_v B3.out b4); clear b4))
          go_ret
          exact ⟨by rw [HN.out rfl]; rfl, trans_v HBU.out B4.out⟩
        · go_wp2_with (first | (go_at_call 29; refine (HRY.out _ B2.out).mono ?_; clear HRY; rintro e w3 ⟨rfl, b3⟩; have B3 := hide (trans_v B2.out b3); have f3 := (B3.out.block _ lX).trans HE.out.1; have f4 := (B3.out.block _ lY).trans HE.out.2; have m4 := cells_at f3 4 _ rfl; have m5 := cells_at f3 5 _ rfl; have m6 := cells_at f3 6 _ rfl; have m7 := cells_at f3 7 _ rfl; have m8 := cells_at f3 8 _ rfl; have n4 := cells_at f4 4 _ rfl; have n5 := cells_at f4 5 _ rfl; have n6 := cells_at f4 6 _ rfl; have n7 := cells_at f4 7 _ rfl; have n8 := cells_at f4 8 _ rfl; clear f3 f4 b3) | (go_at_call 29; refine (HRX.out _ (Below.refl _ _)).mono ?_; clear HRX; rintro e w2 ⟨rfl, b2⟩; have f2 := (b2.block _ lY).trans HE.out.2; have k4 := cells_at f2 4 _ rfl; have k5 := cells_at f2 5 _ rfl; have k6 := cells_at f2 6 _ rfl; have k7 := cells_at f2 7 _ rfl; have k8 := cells_at f2 8 _ rfl; have B2 := hide b2; clear f2 b2) | (go_at_call 30; refine (HSM.out _ B3.out).mono ?_; clear HSM; rintro e w4 ⟨rfl, b4⟩; have B4 := hide (trans_v B3.out b4); clear b4))
          go_roundw
          case rel => exact ⟨k + 1, by omega, by go_num, HZ.out rfl, trans_v HBU.out B4.out⟩
          case measure => simp [intOf]; omega
    · have HZ := hide (show sameB l r = true from sameB_yes HL.out fun j h1 h2 h3 => hz j h1 h2 (by omega))
      clear hz
      go_wp2
      go_ret
      exact ⟨by rw [HZ.out]; rfl, hbel⟩
end Go.Proofs.YtcedpdneanjbkaaGreatDoor

/- EventEncodes answers true. -/
namespace Go.Proofs.YtcedpdneanjbkaaGreatDoor
open Go.RowKit
open Go.Lib (uvarint uvarint_pos uvarint_length64 intOf)

theorem byteSetE {w : World} {base g n cap : Nat} {xs : List Value} (h : w.ownsRow base 5 1 (.slice (some ⟨g, 0, none⟩) n cap) n xs) (k : Nat) (u : Value) :
    (w.setCell ⟨g, k, none⟩ u).ownsRow base 5 1 (.slice (some ⟨g, 0, none⟩) n cap) n (xs.set k u) := by
  obtain ⟨h1, h2⟩ := h
  refine ⟨by rw [List.length_set]; exact h1, ?_⟩
  rcases h2 with ⟨h, _⟩ | ⟨g', cap', cur, hv, hb, hh, hnc, hcm, hcs, ht⟩
  · cases h
  · simp only [Value.slice.injEq, Option.some.injEq, Addr.mk.injEq, and_true, true_and] at hv
    obtain ⟨rfl, rfl⟩ := hv
    refine .inr ⟨g, cap, cur.setIfInBounds k u, rfl, hb, ?_, hnc, hcm, by simp; omega, ?_⟩
    · simp [World.setCell, Array.getElem?_modify, hh]
    · rw [← ht, Array.toList_setIfInBounds, List.take_set]
theorem byteCellE {w : World} {base g n cap : Nat} {xs : List Value} (h : w.ownsRow base 5 1 (.slice (some ⟨g, 0, none⟩) n cap) n xs) (k : Nat) (hk : k < n) :
    (∃ u, w.cell? ⟨g, k, none⟩ = some u) ∧ w.frozen? ⟨g, k, none⟩ = false := by
  have hl : k < xs.length := by rw [h.1]; omega
  refine ⟨⟨xs[k], ?_⟩, ?_⟩
  · have := h.cells (g := g) rfl k xs[k] (by simp [hl])
    rw [Addr.add_lit, Nat.zero_add] at this
    exact this
  · rcases h.2 with ⟨h, _⟩ | ⟨g', cap', cur, hv, hb, hh, _⟩
    · cases h
    · simp only [Value.slice.injEq, Option.some.injEq, Addr.mk.injEq, and_true, true_and] at hv
      obtain ⟨rfl, rfl⟩ := hv
      simp [World.frozen?, hh]
/-- A row of the caller's own that is written over: what lies in A up to B stays, and what lies below L. -/
def OwnE (X Y w : World) (L A : Nat) (v : Value) (n : Nat) : Prop :=
  ∃ xs, w.ownsRow L 5 1 v n xs ∧ (∀ k, v.ownBlock = some k → k < A) ∧ Below L X w ∧ (∀ j, A ≤ j → j < Y.heap.size → w.heap[j]? = Y.heap[j]?) ∧ Y.heap.size ≤ w.heap.size
theorem OwnE.put {X Y w : World} {L A g n cap : Nat} (h : OwnE X Y w L A (.slice (some ⟨g, 0, none⟩) n cap) n) (k : Nat) (u : Value) : OwnE X Y (w.setCell ⟨g, k, none⟩ u) L A (.slice (some ⟨g, 0, none⟩) n cap) n := by
  obtain ⟨xs, h1, h2, h3, h4, h5⟩ := h
  have hl := (h1.lt g rfl).1
  have hg := h2 g rfl
  refine ⟨_, byteSetE h1 k u, h2, h3.setCell hl _, fun j h6 h7 => ?_, by simpa [World.setCell] using h5⟩
  have hne : j ≠ g := by omega
  rw [Below.heap_setCell _ _ _ _ hne]
  exact h4 j h6 h7
/-- What Encode answers, in one form. -/
theorem EncR.one {w : World} {l : List Evn} {e : Ending} {w' : World} (h : EncR w l e w') :
    ∃ v, e = .returned (.tuple #[v, .int .i64 (bif l.all rightE then 0 else 60)]) ∧ w'.ownsRow w.heap.size 5 1 v (bif l.all rightE then encL l else []).length (cellsOf (bif l.all rightE then encL l else [])) ∧ Below w.heap.size w w' := by
  unfold EncR at h
  cases hr : l.all rightE
  · rw [hr, if_neg (by simp)] at h
    obtain ⟨rfl, hb⟩ := h
    exact ⟨_, rfl, ⟨rfl, .inl ⟨rfl, rfl⟩⟩, hb⟩
  · rw [hr, if_pos rfl] at h
    obtain ⟨a, c, rfl, ho, hb⟩ := h
    exact ⟨_, rfl, ho, hb⟩
theorem own_keepE {w w1 : World} {B n : Nat} {e : TypeId} {v : Value} {xs : List Value} (h : w.ownsRow B e 1 v n xs) (hb : Below w.heap.size w w1) : w1.ownsRow B e 1 v n xs :=
  h.kept (row := none) (grown_of_below (r := none) hb) (by cases v.ownBlock <;> simp)
theorem owns_lt {w : World} {L n : Nat} {v : Value} {xs : List Value} (h : w.ownsRow L 5 1 v n xs) : ∀ k, v.ownBlock = some k → L ≤ k ∧ k < w.heap.size := h.lt
theorem owns_slice {w : World} {L n : Nat} {v : Value} {xs : List Value} (h : w.ownsRow L 5 1 v n xs) : ∃ ba bc, v = .slice ba n bc ∧ (0 < n → ∃ g, ba = some ⟨g, 0, none⟩) := by
  rcases h.2 with ⟨hv, h0⟩ | ⟨g, cap, cur, hv, _⟩
  · exact ⟨none, 0, by rw [hv, h0], fun h => absurd h (by omega)⟩
  · exact ⟨_, _, hv, fun _ => ⟨g, rfl⟩⟩
set_option maxRecDepth 100000 in
set_option maxHeartbeats 4000000 in
theorem eventEncodes_walk (l : List Evn) (w : World) (n : Nat) (sa : Value) (hT : Tabs w) (ha : EvsAt w w.heap.size n sa l) (hl : l.length ≤ 1048576) :
    Calls Tryz.prog 4 #[sa] w fun e w' => e = .returned (.bool true) ∧ Below w.heap.size w w' := by
  have HE := hide (fun (U : World) (b : Below w.heap.size w U) => encode6_k l U n sa (hT.below b) ((ha.below b).up b.size) (fun k hk h => Nat.le_trans (enc_ok ha hl k hk h) (by decide)))
  have HR := hide (fun (U : World) (b : Below w.heap.size w U) => refEncode6_k l U n sa ((ha.below b).up b.size) (enc_ok ha hl))
  have HA := hide (fun (U : World) (b : Below w.heap.size w U) => alive6_k U (hT.below b))
  have hlen : (bif l.all rightE then encL l else []).length ≤ 900000000000 := by
    cases hr : l.all rightE
    · simp
    · have := enc_ok ha hl l.length (Nat.le_refl _) (fun j hj _ => List.all_eq_true.1 hr _ (List.getElem_mem hj))
      rw [List.take_length] at this
      exact this
  obtain ⟨a, c, rfl, _⟩ := ha.len
  have BW := hide (Below.refl w.heap.size w)
  have HONE := hide (fun (U : World) (e : Ending) (U' : World) (h : EncR U l e U') => h.one)
  clear ha hT hl
  generalize (bif l.all rightE then encL l else []) = bs at *
  generalize (bif l.all rightE then (0 : Int) else 60) = cd at *
  go_enter Tryz.func4, Tryz.ntmps4
  go_wp2_with (first
    | (go_at_call 15; refine (HE.out _ BW.out).mono ?_; rintro e w2 hE2; obtain ⟨bv, rfl, R2, B2⟩ := HONE.out _ _ _ hE2; clear hE2; have H2 := hide (And.intro R2 B2); clear R2 B2)
    | (go_at_call 16; refine (HR.out _ H2.out.2).mono ?_; clear HR; rintro e w3 hE3; obtain ⟨cv, rfl, R3, B3⟩ := HONE.out _ _ _ hE3; clear hE3; have BW3 := trans_v H2.out.2 B3; have P3 := own_keepE H2.out.1 B3; have hcb := conv_bytes (ownsRow_bytes P3).2.plain; have hcc := conv_bytes (ownsRow_bytes R3).2.plain; have HO : Hid (OwnE w w3 w3 w.heap.size w2.heap.size bv bs.length) := hide ⟨_, P3, fun k hk => (owns_lt H2.out.1 k hk).2, BW3, fun j _ _ => rfl, Nat.le_refl _⟩; have HL3 := hide (And.intro R3 BW3); have HV := hide (owns_slice P3); clear R3 P3 B3 BW3)
    | (go_at_call 12; refine (num6_k _ _).mono ?_; rintro e wq ⟨rfl, rfl⟩))
  obtain ⟨ba, bc, rfl, hg⟩ := HV.out
  have HG := hide hg
  clear hcb hcc hg HV
  go_loopw [7] (fun i wr => ∃ k : Nat, k ≤ bs.length ∧ i = .int .i64 k ∧ OwnE w w3 wr w.heap.size w2.heap.size (.slice ba bs.length bc) bs.length) (fun i _ => bs.length - (intOf i).toNat)
  case atStart => exact ⟨0, Nat.zero_le _, rfl, HO.out⟩
  case round =>
    obtain ⟨k, hk, rfl, hO⟩ := hrel
    by_cases hlt : k < bs.length
    · obtain ⟨g, rfl⟩ := HG.out (by omega)
      obtain ⟨⟨u, hu⟩, hfz⟩ := byteCellE hO.choose_spec.1 k hlt
      have HP := hide (hO.put k (.int .u8 255))
      clear hO
      go_wp2
      go_roundw
      case rel => exact ⟨k + 1, by omega, by go_num, HP.out⟩
      case measure => simp [intOf]; omega
    · have BX := hide hO.choose_spec.2.2.1
      have HCR := hide (own_far HL3.out.1 hO.choose_spec.2.2.2.1)
      clear hO HO
      go_wp2_with (first
        | (go_at_call 15; refine (HE.out _ BX.out).mono ?_; clear HE; rintro e w7 hE7; obtain ⟨dv, rfl, R7, B7⟩ := HONE.out _ _ _ hE7; clear hE7; have hcd := conv_bytes (ownsRow_bytes R7).2.plain; have hcc := conv_bytes (ownsRow_bytes (own_keepE HCR.out B7)).2.plain; have HV7 := hide (owns_slice R7); have BX7 := hide (trans_v BX.out B7); clear R7 B7)
        | (go_at_call 14; refine (HA.out _ BX7.out).mono ?_; clear HA; rintro e w8 ⟨rfl, b8⟩; have BX8 := hide (trans_v BX7.out b8); clear b8))
      go_ret
      exact ⟨rfl, BX8.out⟩
end Go.Proofs.YtcedpdneanjbkaaGreatDoor

/- EventDecodes answers true. -/
namespace Go.Proofs.YtcedpdneanjbkaaGreatDoor
open Go.RowKit
open Go.Lib (intOf)

theorem row_isE {w : World} {base : Nat} {e : TypeId} {size : Nat} {v : Value} {n : Nat} {xs : List Value} (h : w.ownsRow base e size v n xs) (hv : v ≠ .slice none 0 0) : ∃ g cap, v = .slice (some ⟨g, 0, none⟩) n cap ∧ base ≤ g := by
  rcases h.2 with ⟨h, _⟩ | ⟨g, cap, cur, h, hb, _⟩
  · exact absurd h hv
  · exact ⟨g, cap, h, hb⟩
theorem run_append_bytesE (w : World) (base : Nat) (ty : TypeId) (v : Value) (n : Nat) (xs : List Value) (hown : w.ownsRow base 5 1 v n xs) (x : Value) (l : List UInt8) (hb : Bytes w x l)
    (hn : n + l.length ≤ 140737488355328) (hbase : base ≤ w.heap.size) :
    ∃ v' w', (Builtin.append_ #[33, 33] ty #[v, x]).run Tryz.prog w = .ok v' w' ∧ w'.ownsRow base 5 1 v' (n + l.length) (xs ++ cellsOf l) ∧ w.grownBy w' v.ownBlock := by
  obtain ⟨i0, hi, hz0, hz1, hz2⟩ := info_parts info_u8
  obtain ⟨a, c, rfl, _⟩ := id hb
  rcases a with _ | ad
  · have : l = [] := by
      rcases hb.elim with ⟨h, _⟩ | ⟨_, b, off, c, h, _⟩
      · exact h
      · cases h
    subst this
    refine ⟨v, w, ?_, by simpa [cellsOf] using hown, grownBy_refl _ _⟩
    rcases hown.2 with ⟨rfl, rfl⟩ | ⟨g, cap, cur, rfl, hbg, hg, hnc, hcm, hcs, htake⟩
    · simp [Builtin.append_, run_underlying Tryz.underlying33, sizeOf, typeInfo, hi, Builtin.lenOf, Builtin.firstCells]
    · simp [Builtin.append_, run_underlying Tryz.underlying33, sizeOf, typeInfo, hi, Builtin.lenOf, Builtin.firstCells, hnc, storeCells]
  · obtain ⟨v', w', h1, h2, h3, _⟩ := run_append_own (P := Tryz.prog) w base 33 ty 5 i0 (.int .u8 0) 1 1 Tryz.underlying33 hi hz0 hz1 hz2 rfl (by decide) v n xs hown ad l.length c (cellsOf l) (by rw [cellsOf_length, Nat.mul_one]) hb.cells (cellsOf_one l) (by unfold maxLen; omega) (by omega) hbase
    exact ⟨v', w', h1, h2, h3⟩
theorem sameB_self {l : List Evn} (h : l.all rightE = true) : sameB l l = true :=
  sameB_yes rfl fun j h1 _ _ => by
    have hv := (right_parts (List.all_eq_true.1 h _ (List.getElem_mem h1))).2
    unfold simB
    simp [hv, ordV_self]
/-- What both sides' Decode answers: events, which the two say are the same, and the error. -/
structure EvBoth (l : List UInt8) (es : List Evn) (c : Int) : Prop where
  spot : ∀ e ∈ es, e.off = 0 ∧ e.line = 0 ∧ e.col = 0
  same : sameB es es = true
  len : es.length ≤ 1048576
  prog : ∀ (w : World) (sl : Value), Tabs w → BytesIn w 0 w.heap.size sl l → Calls Tryz.prog 17 #[sl] w fun e w' => ∃ v, e = .returned (.tuple #[v, .int .i64 c]) ∧ EvMk w' w.heap.size 4097 v es ∧ Below w.heap.size w w'
  ref : ∀ (w : World) (sl : Value), BytesIn w 0 w.heap.size sl l → Calls Tryz.prog 18 #[sl] w fun e w' => ∃ v, e = .returned (.tuple #[v, .int .i64 c]) ∧ EvMk w' w.heap.size 16 v es ∧ Below w.heap.size w w'
theorem ev_both (l : List UInt8) (hl : l.length ≤ 1048576) : ∃ es c, EvBoth l es c := by
  cases hd : decL6 l with
  | some es =>
    have hal := decL6_all hl hd
    obtain ⟨h1, h2, h3⟩ := rd_some hl hd hal
    refine ⟨es, 0, fun e he => ?_, sameB_self h2, Nat.le_trans (rdL_ok hl h1).2 hl, fun w sl hT hB => ?_, fun w sl hB => ?_⟩
    · have := (hal e he).2.2.2
      rw [← this]
      exact ⟨rfl, rfl, rfl⟩
    · refine (decode6_k w sl l hB hl hT).mono fun e w' h => ?_
      unfold De6 at h
      rw [hd] at h
      obtain ⟨hb, v, h4, h5⟩ := h
      exact ⟨v, h4, h5, hb⟩
    · obtain ⟨a, c, rfl, _⟩ := id hB
      refine (refDecode6_k w a c l hB hl).mono fun e w' h => ?_
      unfold Rd6 at h
      rw [h1] at h
      simp only at h
      rw [if_pos ⟨h2, h3⟩] at h
      obtain ⟨hb, v, h4, h5⟩ := h
      exact ⟨v, h4, h5, hb⟩
  | none =>
    refine ⟨[], 61, fun e he => (by cases he), rfl, by simp, fun w sl hT hB => ?_, fun w sl hB => ?_⟩
    · refine (decode6_k w sl l hB hl hT).mono fun e w' h => ?_
      unfold De6 at h
      rw [hd] at h
      exact ⟨_, h.2, EvMk.nil _ _ _, h.1⟩
    · obtain ⟨a, c, rfl, _⟩ := id hB
      refine (refDecode6_k w a c l hB hl).mono fun e w' h => ?_
      unfold Rd6 at h
      cases hr : rdL l with
      | none =>
        rw [hr] at h
        exact ⟨_, h.2, EvMk.nil _ _ _, h.1⟩
      | some es =>
        rw [hr] at h
        simp only at h
        rw [if_neg (rd_none hl hd hr)] at h
        exact ⟨_, h.2, EvMk.nil _ _ _, h.1⟩
set_option maxRecDepth 100000 in
set_option maxHeartbeats 16000000 in
theorem eventDecodes_walk (l : List UInt8) (w : World) (sl : Value) (hT : Tabs w) (hB : BytesIn w 0 w.heap.size sl l) (hl : l.length ≤ 1048576) :
    Calls Tryz.prog 5 #[sl] w fun e w' => e = .returned (.bool true) ∧ Below w.heap.size w w' := by
  obtain ⟨es, cd, hD⟩ := ev_both l hl
  obtain ⟨a, cp, rfl, _⟩ := id hB
  have hruns := fun ty => run_append_bytesE w w.heap.size ty (.slice none 0 0) 0 [] (World.ownsRow_nil _ _ _ _) (.slice a l.length cp) l hB.plain (by omega) (Nat.le_refl _)
  obtain ⟨v1, w1, hrun, hown, hgr⟩ := hruns 33
  rw [Nat.zero_add, List.nil_append] at hown
  have b1 : Below w.heap.size w w1 := ⟨hgr.os, hgr.tape, hgr.output, hgr.size, fun k hk => hgr.block k hk (by simp [Value.ownBlock])⟩
  have hI1 := (ownsRow_bytes hown).2
  obtain ⟨a1, c1, rfl, _⟩ := id hI1
  have HD1 := hide (hD.prog w1 _ (hT.below b1) (hI1.mono (fun _ _ _ _ => rfl) (Nat.zero_le _) (Nat.le_refl _)))
  have HDR := hide (fun (U : World) (b : Below w.heap.size w U) => hD.ref U (.slice a l.length cp) (hB.mono (fun b' o _ hb => b.cell (p := ⟨b', o, none⟩) hb) (Nat.le_refl _) b.size))
  have HCB := hide (fun (U : World) (b : Below w.heap.size w U) => conv_bytes (hB.mono (w' := U) (fun b' o _ hb => b.cell (p := ⟨b', o, none⟩) hb) (Nat.le_refl _) b.size).plain)
  have HCI := hide (fun (U : World) (b : Below w1.heap.size w1 U) => conv_bytes (hI1.mono (w' := U) (fun b' o _ hb => b.cell (p := ⟨b', o, none⟩) hb) (Nat.le_refl _) b.size).plain)
  have HSM := hide (fun (U : World) (s1 s2 : Value) (h1 : EvsAt U U.heap.size 4097 s1 es) (h2 : EvsAt U U.heap.size 16 s2 es) => refSame6_k es es U 4097 16 s1 s2 h1 h2)
  rw [hD.same] at HSM
  have HLV := hide (fun (U : World) (b : Below w.heap.size w U) => alive6_k U (hT.below b))
  have HRN := hide hrun
  have HOW := hide hown
  have HB1 := hide b1
  have HSP := hide hD.spot
  have hen := hD.len
  clear hD hT hB hruns hrun hown hgr b1 hI1
  go_enter Tryz.func5, Tryz.ntmps5
  go_upto_region 2 with (at_builtin; refine Lib.wpList_append_run _ rfl (.const (.slice none 0 0)) (.tmp 10) 33 33 rfl _ _ rfl rfl _ _ HRN.out ?_)
  go_upto_region 3 with (go_at_call 17; refine HD1.out.mono ?_; clear HD1; rintro e w2 ⟨v2, rfl, mk2, b2⟩; obtain ⟨va2, vc2, rfl⟩ := mk2.len; have HDR2 := hide (HDR.out w2 (trans_v HB1.out b2)); have M2 := hide (And.intro mk2 b2); clear mk2 b2 HDR)
  go_upto_region 4 with (go_at_call 18; refine HDR2.out.mono ?_; clear HDR2; rintro e w3 ⟨v3, rfl, mk3, b3⟩; obtain ⟨va3, vc3, rfl⟩ := mk3.len; have M3 := hide (And.intro mk3 b3); clear mk3 b3)
  have BW3 := hide (trans_v HB1.out (trans_v M2.out.2 M3.out.2))
  have BI3 := hide (trans_v M2.out.2 M3.out.2)
  have HS3 := hide (HSM.out w3 _ _ (((M2.out.1.evs (by omega)).below M3.out.2).up M3.out.2.size) (M3.out.1.evs (by omega)))
  go_upto_region 6 with (first
    | (go_at_call 12; refine (num6_k _ _).mono ?_; rintro e wq ⟨rfl, rfl⟩)
    | (go_at_call 13; refine HS3.out.mono ?_; clear HS3; rintro e w4 ⟨rfl, b4⟩; have hc4 := HCB.out w4 (trans_v BW3.out b4); have hd4 := HCI.out w4 (trans_v BI3.out b4); have B4 := hide b4; clear b4))
  (try clear hc4 hd4)
  have EV4 := hide (((M2.out.1.evs (by omega)).below (trans_v M3.out.2 B4.out)).up (trans_v M3.out.2 B4.out).size)
  go_wp2
  go_loopw [8] (fun i wr => ∃ k : Nat, k ≤ es.length ∧ i = .int .i64 k ∧ w4 = wr) (fun i _ => es.length - (intOf i).toNat)
  case atStart => exact ⟨0, Nat.zero_le _, rfl, by first | rfl | trivial⟩
  case round =>
    obtain ⟨k, hk, rfl, hwr⟩ := hrel
    subst hwr
    by_cases hlt : k < es.length
    · obtain ⟨b5, o5, s5, rfl, g5, _, _, _, _, _, _, _, _, _, x9, x10, x11, _⟩ := EV4.out.item k hlt
      obtain ⟨z9, z10, z11⟩ := HSP.out _ (List.getElem_mem hlt)
      rw [z9] at x9
      rw [z10] at x10
      rw [z11] at x11
      have hki : (k : Int) < (es.length : Int) := by omega
      go_wp2
      go_roundw
      case rel => exact ⟨k + 1, by omega, by go_num, by first | rfl | trivial⟩
      case measure => simp [intOf]; omega
    · have hki : ¬ ((k : Int) < (es.length : Int)) := by omega
      have s1 := HB1.out.size
      have s2 := M2.out.2.size
      have s3 := M3.out.2.size
      have s4 := B4.out.size
      have HO4 := hide (own_keepE HOW.out (trans_v BI3.out B4.out))
      have HLO : Hid (∀ g, (Value.slice a1 l.length c1).ownBlock = some g → w.heap.size ≤ g ∧ g < w1.heap.size) := hide (fun g e => HOW.out.lt g e)
      go_wp2
      go_loopw [9] (fun i wr => ∃ (k : Nat) (xs : List Value), k ≤ l.length ∧ i = .int .i64 k ∧ wr.ownsRow w.heap.size 5 1 (.slice a1 l.length c1) l.length xs ∧ (∀ b, w1.heap.size ≤ b → wr.heap[b]? = w4.heap[b]?) ∧ wr.heap.size = w4.heap.size ∧ Below w.heap.size w wr) (fun i _ => l.length - (intOf i).toNat)
      case atStart => exact ⟨0, _, Nat.zero_le _, rfl, HO4.out, fun _ _ => rfl, rfl, trans_v BW3.out B4.out⟩
      case round =>
        obtain ⟨k, xs, hk, rfl, hO, hkeep, hsz, hbel⟩ := hrel
        by_cases hlt : k < l.length
        · obtain ⟨g, cc, eg, _⟩ := row_isE hO (fun e => by simp only [Value.slice.injEq] at e; omega)
          simp only [Value.slice.injEq, true_and] at eg
          obtain ⟨rfl, rfl⟩ := eg
          obtain ⟨⟨u, hu⟩, hfz⟩ := byteCellE hO k hlt
          have hgl := HLO.out g rfl
          have k0 : (0 : Int) ≤ (k : Int) := by omega
          have k1 : (k : Int) < (l.length : Int) := by omega
          have R := hide (And.intro (byteSetE hO k (.int .u8 255)) (And.intro hkeep (And.intro hsz hbel)))
          clear hO hkeep hsz hbel
          go_wp2
          go_roundw
          case rel => exact ⟨k + 1, _, by omega, by go_num, R.out.1, fun b hb => (Below.heap_setCell _ _ _ _ (by show b ≠ g; omega)).trans (R.out.2.1 b hb), by simpa [World.setCell] using R.out.2.2.1, R.out.2.2.2.setCell (by show w.heap.size ≤ g; exact hgl.1) _⟩
          case measure => simp [intOf]; omega
        · have mk2 := M2.out.1.far (w' := wr) (by omega) (fun k h1 h2 => (hkeep k h1).trans ((B4.out.block k (by omega)).trans (M3.out.2.block k h2)))
          have mk3 := M3.out.1.far (w' := wr) (by omega) (fun k h1 h2 => (hkeep k (by omega)).trans (B4.out.block k h2))
          have HS7 := hide (HSM.out wr _ _ (mk2.evs (by omega)) (mk3.evs (by omega)))
          have HBR := hide hbel
          have hk1 : ¬ ((k : Int) < (l.length : Int)) := by omega
          clear hO hkeep hsz hbel mk2 mk3
          go_wp2_with (first
            | (go_at_call 13; refine HS7.out.mono ?_; clear HS7; rintro e w7 ⟨rfl, b7⟩; have B7 := hide (trans_v HBR.out b7); have HL7 := hide (HLV.out w7 (trans_v HBR.out b7)); clear b7)
            | (go_at_call 14; refine HL7.out.mono ?_; clear HL7; rintro e w8 ⟨rfl, b8⟩; have B8 := hide (trans_v B7.out b8); clear b8))
          go_ret
          exact ⟨rfl, B8.out⟩
end Go.Proofs.YtcedpdneanjbkaaGreatDoor

/- A row of bytes that came in, with its bulk. -/
namespace Go.Proofs.YtcedpdneanjbkaaGreatDoor
open Go.ChangeShapes Go.WideShapes Go.ChangeAt Go.RowKit

theorem bulk_oneB {H : Type} (d : DataW H) : 1 ≤ Rows.uptoBulk d := by
  cases d with
  | lit l => cases l <;> simp [Rows.uptoBulk]
  | nil => simp [Rows.uptoBulk]
  | ptr d => simp [Rows.uptoBulk]
  | slice elems spare => simp [Rows.uptoBulk]
  | agg parts => simp [Rows.uptoBulk]
  | iface t d => simp [Rows.uptoBulk]
  | map entries => simp [Rows.uptoBulk]
  | held h => simp [Rows.uptoBulk]
theorem bulk_lengthB {H : Type} (l : List (DataW H)) : l.length ≤ Rows.uptoBulkAll l := by
  induction l with
  | nil => simp [Rows.uptoBulkAll]
  | cons x r ih => have := bulk_oneB x; simp only [Rows.uptoBulkAll, List.length_cons]; omega
theorem bytes_u8B : Tryz.prog.bytesOf 5 = 1 := by kernel_rfl

theorem bytes_of_rowB {W : World} {x : Addr} {len cap : Nat} {zs : List Int} (hl : len ≤ cap) (hm : cap ≤ maxLen) (hz : zs.length = cap)
    (hcell : ∀ i, i < zs.length → W.cell? (x.add i) = some (.int .u8 (zs.getD i 0))) (hwz : ∀ n ∈ zs, (Lit.int .u8 n).wf = true) :
    ∃ l : List UInt8, l.length = len ∧ BytesIn W 0 W.heap.size (.slice (some x) len cap) l := by
  refine ⟨(zs.take len).map (fun n => UInt8.ofNat n.toNat), by simp; omega, some x, cap, ?_, ?_, hm, ?_⟩
  · simp; omega
  · simp; omega
  · intro j hj
    have hj' : j < len := by simp at hj; omega
    obtain ⟨b, off, rfl, hc⟩ := ints_at hcell (by omega)
    have h1 := hc j (by omega)
    refine ⟨b, off, rfl, Nat.zero_le _, World.block_lt_of_cell? W ⟨b, off + j, none⟩ h1, ?_⟩
    have hjz : j < zs.length := by omega
    have hb := range_u8 hwz j
    rw [h1, List.getElem_map, List.getElem_take]
    have e1 : zs.getD j 0 = zs[j] := by simp [List.getD, hjz]
    have e2 : zs[j]?.getD 0 = zs[j] := by simp [hjz]
    rw [e2] at hb
    rw [e1]
    have e3 : (UInt8.ofNat zs[j].toNat).toNat = zs[j].toNat := by
      rw [UInt8.toNat_ofNat']
      omega
    rw [e3]
    congr 2
    omega

theorem open_bytesB {H : Type} {enc : TypeId × Value → H} {W : World} {a : Option Addr} {len cap : Nat} {d : DataW H} {p : List MemPlace} {fuel : Nat}
    (hf : DataW.trod enc Tryz.prog W 0 (fun _ => true) true fuel 33 (Value.cells (.slice a len cap)).toList = some (d, p)) :
    ∃ l : List UInt8, l.length = len ∧ BytesIn W 0 W.heap.size (.slice a len cap) l ∧ l.length ≤ Rows.uptoBulk d := by
  rcases open_ints Tryz.underlying33 Tryz.underlying5 (by kernel_rfl) hf with ⟨hcs, hx⟩ | ⟨x, l, c, zs, hcs, _, hl, hm, hz, hx, hcell, hwz⟩
  · simp [Value.cells] at hcs
    obtain ⟨rfl, rfl, rfl⟩ := hcs
    exact ⟨[], rfl, ⟨none, 0, rfl, Nat.le_refl _, by unfold maxLen; omega, fun j hj => by simp at hj⟩, Nat.zero_le _⟩
  · simp [Value.cells] at hcs
    obtain ⟨rfl, rfl, rfl⟩ := hcs
    have hz' : zs.length = cap := by simpa using hz
    obtain ⟨l', h1, h2⟩ := bytes_of_rowB hl hm hz' hcell hwz
    refine ⟨l', h1, h2, ?_⟩
    have e : d = _ := congrArg Prod.fst hx
    rw [e, h1]
    have h3 := bulk_lengthB (lits (H := H) .u8 (zs.take len))
    simp only [Rows.uptoBulk]
    simp only [lits, List.length_map, List.length_take] at h3 ⊢
    omega
end Go.Proofs.YtcedpdneanjbkaaGreatDoor

/- EventDecodes holds of every input within the bulk. -/
namespace Go.Proofs.YtcedpdneanjbkaaGreatDoor.eventDecodes
open Go.ChangeShapes Go.WideShapes Go.ChangeAt Go.RowKit
open Go.ChangeMaps (open_string)

set_option maxRecDepth 100000 in
theorem contract (H : Type) (enc : TypeId × Value → H) (W : World) (base : Nat) (args : Array Value) (ds gs : List (DataW H)) (before : List MemPlace)
    (hval : ∀ (j : Nat) t v, Tryz.f5.params[j]? = some t → args[j]? = some v → Value.okWide Tryz.prog W .any base t v)
    (hW : DataW.Whole enc Tryz.prog Tryz.f5.params.toList Rows.eventDecodesSpec.vars false W args.toList ds gs before) (hL : laidMetH Tryz.prog laidE W) (hk : Rows.uptoBulkAll (ds ++ gs) ≤ 1048576) :
    Calls Tryz.prog 5 args W fun e W' => ∃ v, e = .returned v ∧ Rows.eventDecodesSpec.post enc Tryz.prog Tryz.f5 false true false false W args v W' := by
  have hW' := hW
  obtain ⟨p, q, hA0, hV, rfl, hfz, hnd⟩ := hW
  have hA : DataW.TrodAll enc Tryz.prog W 0 (fun _ => true) true Tryz.f5.params.toList args.toList ds p := hA0
  rw [Tryz.params5] at hA hval
  obtain ⟨v0, vs0, d0, ds0, p0, q0, hargs, rfl, rfl, h0, r0⟩ := trodAll_cons hA
  obtain ⟨rfl, rfl, rfl⟩ := trodAll_nil r0
  obtain rfl : args = #[v0] := by cases args; simp_all
  obtain ⟨rfl, rfl⟩ := trodVars_none hV
  obtain ⟨a0, len0, cap0, rfl⟩ := okWide_slice Tryz.underlying33 (hval 0 33 v0 rfl rfl)
  have k0 := h0
  have lt0 : ∀ x ∈ p0, x.block < W.heap.size := by obtain ⟨m, hm⟩ := k0; exact DataW.trod_lt m _ _ _ hm
  obtain ⟨fuel0, hf0⟩ := h0
  obtain ⟨l0, hl0, hb0, hbk0⟩ := open_bytesB hf0
  subst hl0
  clear hA0
  simp only [List.append_nil, Rows.uptoBulkAll] at hk
  simp only [List.append_nil] at hW'
  refine (eventDecodes_walk l0 W _ (tabsE_of_laid hL) hb0 (by omega)).mono fun e W' ⟨he, bel⟩ => ?_
  subst he
  exact ⟨_, rfl, _, _, _, [], _, [], hW', trodAll_mk1 (shut_bool Tryz.underlying4 _), trodAll_cons_mk (Below.trod laidOut (by kernel_rfl) (of_decide_eq_true (by kernel_rfl)) k0 bel lt0) trodAll_mk0, rfl, bel.frame _, fun h => by cases h⟩

theorem laid_met (os : Os) : laidMet Tryz.prog Rows.eventDecodesUptoRow.laid ((laidWorldE os).forCall (fun _ _ => 0) ⟨#[], #[.slice none 0 0], []⟩).memory :=
  laidMet_of_run' 8 (by kernel_rfl) (by kernel_rfl)
theorem reads (os : Os) {H : Type} (enc : TypeId × Value → H) : ∃ places, DataW.whole enc Tryz.prog ((laidWorldE os).forCall (fun _ _ => 0) ⟨#[], #[.slice none 0 0], []⟩).memory Tryz.f5.params.toList Rows.eventDecodesSpec.vars false #[Value.slice none 0 0].toList 8 = some ([.nil], [], places) :=
  ⟨[], by kernel_rfl⟩

set_option maxRecDepth 100000 in
theorem liftedUpto (os : Os) (started : os.Started) (H : Type) (enc : TypeId × Value → H) (F : Stop.Interp) :
    ReturnsInHanded {} Tryz.checked os 5 .any ((Rows.OpenSpec.upto Rows.eventDecodesSpec).preRow enc Tryz.prog Tryz.f5 Rows.eventDecodesUptoRow.domain false Rows.eventDecodesUptoRow.laid) (((Rows.OpenSpec.upto Rows.eventDecodesSpec).at F).post enc Tryz.prog Tryz.f5 false true false false) := by
  obtain ⟨places, hx⟩ := reads os enc
  refine returnsInHanded_of_row (C := Tryz.checked) (s := Rows.OpenSpec.upto Rows.eventDecodesSpec) own started (by kernel_rfl) Tryz.func5
    (witness_row_at (enc := enc) (C := Tryz.checked) false (laidWorldE os) #[.slice none 0 0] rfl (by kernel_rfl) (by kernel_rfl) (by kernel_rfl)
      (OpenSpec.preRow_of_cond 8 hx (by kernel_rfl) (fun k hk => by cases hk; kernel_rfl) (by kernel_rfl) (laid_met os))) ?_
  intro W base args ds gs before hval hW _ hcond _ hL _ _
  exact contract H enc W base args ds gs before hval hW hL (of_decide_eq_true (hcond _ rfl))

theorem saidUpto : Rows.EventDecodesUptoSaid :=
  OpenClaim.holds_of_cond 5 Tryz.f5 rfl rfl rfl rfl rfl rfl rfl ⟨rfl, rfl, rfl, rfl, rfl⟩ rfl rfl rfl rfl rfl (by kernel_rfl) Tryz.func5 (by kernel_rfl)
    (of_decide_eq_true (by kernel_rfl)) (by unfold Func.isWrapper; first | (rw [if_pos (by decide +kernel)]; kernel_rfl) | (rw [if_neg (by decide +kernel)]; exact ⟨rfl, rfl⟩))
    (fun os started H enc _ F => by rw [OpenClaim.pre_eq_preRow]; exact liftedUpto os started H enc F)

theorem plain (f : FuncId) (fn : Func) (hf : Tryz.pinned.checked.prog.funcNamed Rows.eventDecodesRow.func = some f) (hfn : Tryz.pinned.checked.prog.funcs[f]? = some fn) :
    true = Tryz.pinned.checked.prog.looks [] ∧ ∀ (j : Nat) t, fn.params[j]? = some t → Tryz.pinned.checked.prog.wantsStandIn t = false := by
  obtain rfl : f = 5 := Option.some.inj ((show Tryz.prog.funcNamed Rows.eventDecodesRow.func = some 5 by kernel_rfl).symm.trans hf) |>.symm
  obtain rfl : fn = Tryz.f5 := (Option.some.inj (Tryz.func5.symm.trans hfn)).symm
  refine ⟨by kernel_rfl, fun j t ht => ?_⟩
  rw [Tryz.params5] at ht
  obtain rfl : t = 33 := by simpa using Array.mem_of_getElem? ht
  exact (show Tryz.prog.wantsStandIn 33 = false by kernel_rfl)

theorem cardUpto : Rows.EventDecodesUptoCardSaid :=
  Claim7.holds_tied_plain_at .later [] _ _ _ _ saidUpto (fun _ h => by cases h) (by kernel_rfl) (fun _ h => by cases h) eventDecodesUpto_row_tie rfl ⟨rfl, rfl⟩ (by kernel_rfl) rfl plain (by kernel_rfl)
end Go.Proofs.YtcedpdneanjbkaaGreatDoor.eventDecodes
namespace Go.Proofs.YtcedpdneanjbkaaGreatDoor
theorem eventDecodes_upto : Rows.EventDecodesUptoCardSaid := eventDecodes.cardUpto
#print axioms eventDecodes_upto
end Go.Proofs.YtcedpdneanjbkaaGreatDoor
