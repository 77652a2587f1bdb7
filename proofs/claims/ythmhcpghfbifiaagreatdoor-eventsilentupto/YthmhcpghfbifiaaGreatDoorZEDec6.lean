/- Decode of events. -/
import Derived.Test.YthmhcpghfbifiaaGreatDoorZEDEv
import Derived.Test.YthmhcpghfbifiaaGreatDoorZEParse
import Derived.Test.YthmhcpghfbifiaaGreatDoorGOctet
namespace Go.Proofs.YthmhcpghfbifiaaGreatDoor
open Go.RowKit

/-- What Decode comes to. -/
def De6 (w : World) (b : List UInt8) (e : Ending) (w' : World) : Prop := Below w.heap.size w w' ∧ match decL6 b with
  | some l => ∃ v, e = .returned (.tuple #[v, .int .i64 0]) ∧ EvMk w' w.heap.size 4097 v l
  | none => e = .returned (.tuple #[.slice none 0 0, .int .i64 61])
theorem decEvs6_step (n : Nat) (r : List UInt8) : decEvs6 (n + 1) r = match decEv6 r with
    | none => none
    | some (e, r') => match decEvs6 n r' with
      | none => none
      | some (es, r'') => some (e :: es, r'') := rfl
/-- How far Decode has come: what is still to be read decides. -/
def Ahead (n0 : Nat) (r0 : List UInt8) (acc : List Evn) (n : Nat) (r : List UInt8) : Prop := decEvs6 n0 r0 = match decEvs6 n r with
  | none => none
  | some (es, r') => some (acc ++ es, r')
theorem Ahead.start (n : Nat) (r : List UInt8) : Ahead n r [] n r := by
  unfold Ahead
  cases decEvs6 n r with
  | none => rfl
  | some z => rfl
theorem Ahead.stop {n0 n : Nat} {r0 r : List UInt8} {acc : List Evn} (h : Ahead n0 r0 acc (n + 1) r) (he : decEv6 r = none) : decEvs6 n0 r0 = none := by
  unfold Ahead at h
  rw [h, decEvs6_step, he]
theorem Ahead.next {n0 n : Nat} {r0 r r' : List UInt8} {acc : List Evn} {e : Evn} (h : Ahead n0 r0 acc (n + 1) r) (he : decEv6 r = some (e, r')) : Ahead n0 r0 (acc ++ [e]) n r' := by
  unfold Ahead at h ⊢
  rw [h, decEvs6_step, he]
  simp only
  cases decEvs6 n r' with
  | none => rfl
  | some z => simp
theorem Ahead.done {n0 : Nat} {r0 r : List UInt8} {acc : List Evn} (h : Ahead n0 r0 acc 0 r) : decEvs6 n0 r0 = some (acc, r) := by
  unfold Ahead at h
  rw [h]
  simp [decEvs6]
theorem r0_grown {w W W' : World} {r : Nat} (b : Below w.heap.size w W) (g : W.grownBy W' (some r)) : w.grownBy W' (some r) := grown_more (grown_of_below b) g
set_option maxRecDepth 100000 in
set_option maxHeartbeats 4000000 in
theorem decode6_no (w : World) (sl : Value) (b : List UInt8) (hB : BytesIn w 0 w.heap.size sl b) (hb : b.length ≤ 1000000000000) (hT : Tabs w) (hf : ¬ (front b).2.2 = 0) :
    Calls Tryz.prog 18 #[sl] w fun e w' => De6 w b e w' := by
  have hmf : ∀ (fn : Fn) (first cap : Array Value) (w : World), (Instr.makeFunc fn first cap).run Tryz.prog w = .ok (.func fn first cap) w := fun _ _ _ _ => rfl
  obtain ⟨a, c, rfl, _⟩ := id hB
  obtain ⟨W, hW⟩ : ∃ W, (w.alloc (.cells #[.slice none 0 0] 22)).alloc (.cells #[.int .i64 0] 24) = W := ⟨_, rfl⟩
  have bW : Below w.heap.size w W := by rw [← hW]; exact alloc_v (alloc_v (Below.refl _ _) _) _
  have zW : W.heap.size = w.heap.size + 2 := by rw [← hW]; simp
  have e0 : W.heap[w.heap.size]? = some (.cells #[.slice none 0 0] 22 (0, 0)) := by rw [← hW]; exact (Below.heap_alloc _ _ _ (by simp)).trans (World.alloc_heap_new w _)
  have e1 : W.heap[w.heap.size + 1]? = some (.cells #[.int .i64 0] 24 (0, 0)) := by rw [← hW]; have := World.alloc_heap_new (w.alloc (.cells #[.slice none 0 0] 22)) (.cells #[.int .i64 0] 24); rwa [World.size_alloc] at this
  have hBW : BytesIn W 0 w.heap.size (.slice a b.length c) b := hB.mono (fun b' o _ hb' => bW.cell (p := ⟨b', o, none⟩) hb') (Nat.le_refl _) (Nat.le_refl _)
  have HNR := hide (newReader_any W (.slice a b.length c) b hBW.plain (by omega))
  have HE := hide (And.intro e0 (And.intro e1 hBW))
  have hroom := hT.room
  have HT := hide hT
  have HZ := hide zW
  have hB0 := hB
  clear hB e0 e1 hBW
  have hfin : decL6 b = none := by unfold decL6; rw [if_neg hf]
  have hf' : ¬ (((front b).2.2 : Nat) : Int) = 0 := by exact_mod_cast hf
  go_enter_defers Tryz.func18, Tryz.ntmps18
  go_wp2_with (first
    | (go_at_call 36; refine HNR.out.mono ?_; clear HNR; rintro e w1 ⟨rb, rfl, h1, h2, r1, b1⟩; have HU := hide (rUvarint (w1.alloc (.cells #[.slice a b.length c, .pointer (some ⟨rb, 0, none⟩)] 85)) rb W.heap.size b (r1.kept (fun k _ hk => Below.heap_alloc _ _ _ (by omega)) h1)); have R1 := hide (And.intro h1 (And.intro h2 b1)); have eD := World.alloc_heap_new w1 (.cells #[.slice a b.length c, .pointer (some ⟨rb, 0, none⟩)] 85); have ED := hide eD; have d1 := cells_at eD 1 _ rfl; clear h1 h2 r1 b1 eD)
    | (go_at_call 38; refine HU.out.mono ?_; clear HU; rintro e w2 ⟨rfl, r2, g2⟩; have R2 := hide (And.intro r2 g2); clear r2 g2)
    | (go_at_call 37; refine (sureU_6no _ _ hf' _).mono ?_; rintro e w3 ⟨rfl, rfl⟩))
  obtain ⟨h1, h2, b1⟩ := R1.out
  obtain ⟨r2, g2⟩ := R2.out
  have zW := HZ.out
  have bA : Below w1.heap.size w1 (w1.alloc (.cells #[.slice a b.length c, .pointer (some ⟨rb, 0, none⟩)] 85)) := alloc_v (Below.refl _ _) _
  have zA : (w1.alloc (.cells #[.slice a b.length c, .pointer (some ⟨rb, 0, none⟩)] 85)).heap.size = w1.heap.size + 1 := by simp
  have hlow : ∀ k, k < W.heap.size → w2.heap[k]? = W.heap[k]? := fun k hk => (g2.block k (by omega) (by simp; omega)).trans ((bA.block k (by omega)).trans (b1.block k hk))
  have k0 := (hlow _ (by omega)).trans HE.out.1
  have k1 := (hlow _ (by omega)).trans HE.out.2.1
  have bw2 : Below w.heap.size w w2 := below_of_grown (r0_grown (trans_v bW (trans_v b1 bA)) g2) (by omega)
  refine leaves_cons (f := 35) (args := #[.pointer (some ⟨w.heap.size, 0, none⟩), .pointer (some ⟨w.heap.size + 1, 0, none⟩)]) (by simp) (by simp [go_sem]) ?_
  refine (dCatch6 w.heap.size (w.heap.size + 1) w2 61 (by omega) ⟨_, k0⟩ ⟨_, k1⟩).mono ?_
  rintro e u' w9 ⟨rfl, rfl, q1, q2, q3, q4, q5, q6, q7⟩
  refine ⟨_, results2 (t0 := 22) (t1 := 24) rfl _ _ ⟨w.heap.size, 0, none⟩ ⟨w.heap.size + 1, 0, none⟩ (.slice none 0 0) (.int .i64 61) rfl rfl (load_evs q1) (load_errno q2), ?_⟩
  refine ⟨⟨q5.trans bw2.os, q6.trans bw2.tape, q7.trans bw2.output, by rw [q3]; exact bw2.size, fun j hj => (q4 j (by omega) (by omega)).trans (bw2.block j hj)⟩, ?_⟩
  rw [hfin]
set_option maxRecDepth 100000 in
set_option maxHeartbeats 8000000 in
theorem decode6_go (w : World) (sl : Value) (b : List UInt8) (hB : BytesIn w 0 w.heap.size sl b) (hb : b.length ≤ 1000000000000) (hn9 : b.length < 1000000000 ∨ (front b).1 < 1000000000) (hT : Tabs w) (hf : (front b).2.2 = 0) :
    Calls Tryz.prog 18 #[sl] w fun e w' => De6 w b e w' := by
  have hmf : ∀ (fn : Fn) (first cap : Array Value) (w : World), (Instr.makeFunc fn first cap).run Tryz.prog w = .ok (.func fn first cap) w := fun _ _ _ _ => rfl
  obtain ⟨a, c, rfl, _⟩ := id hB
  obtain ⟨W, hW⟩ : ∃ W, (w.alloc (.cells #[.slice none 0 0] 22)).alloc (.cells #[.int .i64 0] 24) = W := ⟨_, rfl⟩
  have bW : Below w.heap.size w W := by rw [← hW]; exact alloc_v (alloc_v (Below.refl _ _) _) _
  have zW : W.heap.size = w.heap.size + 2 := by rw [← hW]; simp
  have e0 : W.heap[w.heap.size]? = some (.cells #[.slice none 0 0] 22 (0, 0)) := by rw [← hW]; exact (Below.heap_alloc _ _ _ (by simp)).trans (World.alloc_heap_new w _)
  have e1 : W.heap[w.heap.size + 1]? = some (.cells #[.int .i64 0] 24 (0, 0)) := by rw [← hW]; have := World.alloc_heap_new (w.alloc (.cells #[.slice none 0 0] 22)) (.cells #[.int .i64 0] 24); rwa [World.size_alloc] at this
  have hBW : BytesIn W 0 w.heap.size (.slice a b.length c) b := hB.mono (fun b' o _ hb' => bW.cell (p := ⟨b', o, none⟩) hb') (Nat.le_refl _) (Nat.le_refl _)
  have HNR := hide (newReader_any W (.slice a b.length c) b hBW.plain (by omega))
  have HE := hide (And.intro e0 (And.intro e1 hBW))
  have hroom := hT.room
  have HT := hide hT
  have HZ := hide zW
  have hB0 := hB
  clear hB e0 e1 hBW
  obtain ⟨n, hn⟩ : ∃ n, (front b).1 = n := ⟨_, rfl⟩
  rw [hn] at hn9
  obtain ⟨u, hu⟩ : ∃ u, (front b).2.1 = u := ⟨_, rfl⟩
  have hub : u ≤ b.length := by rw [← hu]; exact front_fits b
  have hfin : decL6 b = match decEvs6 n (b.drop u) with | none => none | some (es, r) => if r.length = 0 then some es else none := by
    unfold decL6
    rw [if_pos hf, hn, hu]
    cases decEvs6 n (b.drop u) <;> rfl
  have HF := hide hfin
  have hf' : (((front b).2.2 : Nat) : Int) = 0 := by exact_mod_cast hf
  have hn64 : n < 18446744073709551616 := by rw [← hn]; exact front_lt b
  have HSU : Hid (∀ U : World, Calls Tryz.prog 37 #[.int .u64 ((front b).1 : Nat), .int .i64 ((front b).2.2 : Nat)] U fun e w' => e = .returned (.int .u64 n) ∧ U = w') := fun U => by rw [hf', hn]; exact sureU_6 _ _
  go_enter_defers Tryz.func18, Tryz.ntmps18
  go_wp2_with (first
    | (go_at_call 36; refine HNR.out.mono ?_; clear HNR; rintro e w1 ⟨rb, rfl, h1, h2, r1, b1⟩; have HU := hide (rUvarint (w1.alloc (.cells #[.slice a b.length c, .pointer (some ⟨rb, 0, none⟩)] 85)) rb W.heap.size b (r1.kept (fun k _ hk => Below.heap_alloc _ _ _ (by omega)) h1)); have R1 := hide (And.intro h1 (And.intro h2 b1)); have eD := World.alloc_heap_new w1 (.cells #[.slice a b.length c, .pointer (some ⟨rb, 0, none⟩)] 85); have ED := hide eD; have d1 := cells_at eD 1 _ rfl; clear h1 h2 r1 b1 eD)
    | (go_at_call 38; refine HU.out.mono ?_; clear HU; rintro e w2 ⟨rfl, r2, g2⟩; have R2 := hide (And.intro r2 g2); clear r2 g2)
    | (go_at_call 37; first | (refine (sureU_6 _ _).mono ?_; rintro e w3 ⟨rfl, rfl⟩) | (refine (HSU.out _).mono ?_; rintro e w3 ⟨rfl, rfl⟩)))
  obtain ⟨h1, h2, b1⟩ := R1.out
  obtain ⟨r2, g2⟩ := R2.out
  have zW := HZ.out
  have bA : Below w1.heap.size w1 (w1.alloc (.cells #[.slice a b.length c, .pointer (some ⟨rb, 0, none⟩)] 85)) := alloc_v (Below.refl _ _) _
  have zA : (w1.alloc (.cells #[.slice a b.length c, .pointer (some ⟨rb, 0, none⟩)] 85)).heap.size = w1.heap.size + 1 := by simp
  have hlow : ∀ k, k < W.heap.size → w2.heap[k]? = W.heap[k]? := fun k hk => (g2.block k (by omega) (by simp; omega)).trans ((bA.block k (by omega)).trans (b1.block k hk))
  have k0 := (hlow _ (by omega)).trans HE.out.1
  have k1 := (hlow _ (by omega)).trans HE.out.2.1
  have bw2 : Below w.heap.size w w2 := below_of_grown (r0_grown (trans_v bW (trans_v b1 bA)) g2) (by omega)
  rw [hu] at r2
  have hD0 : EDAt w2 w1.heap.size rb W.heap.size w.heap.size (.slice a b.length c) b (b.drop u) := ⟨(g2.block _ (by omega) (by simp; omega)).trans ED.out, HE.out.2.2.mono (fun b' o _ hb' => World.cell?_of_block (hlow b' (by omega))) (Nat.le_refl _) (Nat.le_refl _), r2, ⟨u, hub, rfl⟩, by omega, h1, by omega⟩
  obtain ⟨db, hdb⟩ : ∃ db, w1.heap.size = db := ⟨_, rfl⟩
  rw [hdb] at hD0
  have hz2 := g2.size
  rw [zA, hdb] at hz2
  have hrbdb : rb < db := by omega
  have hWrb : W.heap.size ≤ rb := h1
  have KK := hide (And.intro k0 (And.intro k1 (And.intro bw2 (And.intro hD0 (And.intro hz2 (And.intro hrbdb hWrb))))))
  simp only [hdb]
  clear hD0 k0 k1 bw2 hlow bA r2 g2 h1 h2 b1 hz2 hrbdb hWrb zA zW R1 R2 ED d1 hmf hW hfin
  go_loopw [16] (fun i wr => ∃ (k : Nat) (acc : List Evn) (v : Value) (rk : List UInt8), k ≤ n ∧ i = .int .u64 k ∧ Ahead n (b.drop u) acc (n - k) rk ∧ EDAt wr db rb W.heap.size w.heap.size (.slice a b.length c) b rk ∧ wr.heap[w.heap.size]? = some (.cells #[v] 22 (0, 0)) ∧ wr.heap[w.heap.size + 1]? = some (.cells #[.int .i64 0] 24 (0, 0)) ∧ EvMk wr (db + 1) 4097 v acc ∧ (acc.length + rk.length ≤ b.length ∧ acc.length ≤ k) ∧ Below w.heap.size w wr) (fun i _ => n - (intOf i).toNat)
  case atStart =>
    obtain ⟨k0, k1, bw2, hD0, hz2, hrbdb, hWrb⟩ := KK.out
    exact ⟨0, [], _, _, Nat.zero_le _, rfl, Ahead.start _ _, hD0, k0, k1, EvMk.nil _ _ _, ⟨by rw [List.length_drop]; simp, Nat.le_refl _⟩, bw2⟩
  case round =>
    obtain ⟨k, acc, v, rk, hk, rfl, hA, hD, hv, hv1, hmk, hlen, hlow⟩ := hrel
    obtain ⟨_, _, _, _, hz2, hrbdb, hWrb⟩ := KK.out
    have zW := HZ.out
    by_cases hlt : k < n
    · obtain ⟨j, hj⟩ : ∃ j, n - k = j + 1 := ⟨n - k - 1, by omega⟩
      rw [hj] at hA
      have hTw : Tabs wr.drew := (HT.out.keep hlow hroom).below (below_drew (Below.refl _ _))
      have hDd : EDAt wr.drew db rb W.heap.size w.heap.size (.slice a b.length c) b rk := hD.same (fun _ _ => rfl)
      have HEV := hide (dev_k wr.drew db rb W.heap.size w.heap.size (.slice a b.length c) b rk hDd hb hTw ⟨by omega, by omega⟩)
      have hkn : (k : Int) < (n : Int) := by omega
      have hv0 := cells_at hv 0 _ rfl
      have HS0 : Hid (wr.drew.cell? ⟨w.heap.size, 0, none⟩ = some v) := hv0
      obtain ⟨va, vc, rfl⟩ := hmk.len
      have HH := hide (And.intro hA (And.intro hD (And.intro hv (And.intro hv1 (And.intro hmk (And.intro hlen hlow))))))
      have hdw : db < wr.heap.size := (Array.getElem?_eq_some_iff.1 hD.blk).1
      clear hA hD hv hv1 hmk hlen hlow hTw hDd hv0
      go_wp2
      have hvd : wr.drew.cell? ⟨w.heap.size, 0, none⟩ = some (.slice va acc.length vc) := HS0.out
      refine wp_region_G 5 (fun _ => True) (by kernel_rfl) (by kernel_rfl) ?_
      refine wpAnyG_two (i := 0) (j := 1) (by kernel_rfl) rfl rfl (fun K hK => ?pa) (fun K hK => ?pb)
      case pa =>
        go_simp
        refine hK.out _ _ trivial ?_
        (try simp only [Act.put, List.setIfInBounds_toArray])
        refine wpAnyG_one (i := 1) (by kernel_rfl) rfl (fun K1 hK1 => ?_)
        go_simp
        obtain ⟨hA, hD, hv, hv1, hmk, hlen, hlow⟩ := HH.out
        cases hev : decEv6 rk with
        | none =>
          go_at_call 39
          refine HEV.out.mono ?_
          rintro e U3 ⟨g3, hm⟩
          rw [hev] at hm
          subst hm
          have q0 := (g3.block w.heap.size (by show w.heap.size < wr.heap.size; omega) (by simp; omega)).trans hv
          have q1' := (g3.block (w.heap.size + 1) (by show w.heap.size + 1 < wr.heap.size; omega) (by simp; omega)).trans hv1
          have b3 : Below w.heap.size w U3 := hlow.grown (w' := U3) (show wr.grownBy U3 (some rb) from ⟨g3.os, g3.tape, g3.output, g3.size, g3.block⟩) (by omega) (fun q e => by cases e; omega)
          have hno : decL6 b = none := by rw [HF.out, hA.stop hev]
          refine leaves_cons (f := 35) (args := #[.pointer (some ⟨w.heap.size, 0, none⟩), .pointer (some ⟨w.heap.size + 1, 0, none⟩)]) (by simp) (by simp [go_sem]) ?_
          refine (dCatch6 w.heap.size (w.heap.size + 1) U3 61 (by omega) ⟨_, q0⟩ ⟨_, q1'⟩).mono ?_
          rintro e u' w9 ⟨rfl, rfl, q1, q2, q3, q4, q5, q6, q7⟩
          refine ⟨_, results2 (t0 := 22) (t1 := 24) rfl _ _ ⟨w.heap.size, 0, none⟩ ⟨w.heap.size + 1, 0, none⟩ (.slice none 0 0) (.int .i64 61) rfl rfl (load_evs q1) (load_errno q2), ?_⟩
          refine ⟨⟨q5.trans b3.os, q6.trans b3.tape, q7.trans b3.output, by rw [q3]; exact b3.size, fun j hj => (q4 j (by omega) (by omega)).trans (b3.block j hj)⟩, ?_⟩
          rw [hno]
        | some z =>
          obtain ⟨⟨ek, ep, eo, eq, ⟨vk, vi, vm, vt, vl⟩, e9, e10, e11⟩, rk'⟩ := z
          have hrl : rk.length ≤ 1000000000000 := by omega
          have hok := decEv6_ok hrl hev
          go_at_call 39
          refine HEV.out.mono ?_
          rintro e U3 ⟨g3, hm⟩
          rw [hev] at hm
          obtain ⟨⟨s3, rfl, i3⟩, hD3⟩ := hm
          obtain ⟨sa, sc, rfl, _⟩ := i3.len
          have hz3 : wr.heap.size ≤ U3.heap.size := g3.size
          have mk3 : EvMk U3 (db + 1) 4097 (.slice va acc.length vc) acc := hmk.far hz3 (fun k' h1 h2 => g3.block k' h2 (by simp; omega))
          obtain ⟨gq, cap, W4, hrun, mk4, g4, lie4⟩ := mk3.push (by omega) (by omega) ⟨ek, ep, eo, eq, ⟨vk, vi, vm, vt, vl⟩, e9, e10, e11⟩ 22 (i3.kept (fun _ _ _ => rfl) (fun b' hb' => ⟨by have := hb'.1; have : wr.drew.heap.size = wr.heap.size := rfl; omega, hb'.2, fun e => by have := (hmk.lt e).2; have := hb'.1; have : wr.drew.heap.size = wr.heap.size := rfl; omega⟩)) hok.2.1 hok.2.2.2
          have ho4 : ∀ {q : Nat}, (Value.slice va acc.length vc).ownBlock = some q → db + 1 ≤ q := fun e => (hmk.lt e).1
          have k3 := (g3.block w.heap.size (by show w.heap.size < wr.heap.size; omega) (by simp; omega)).trans hv
          have k31 := (g3.block (w.heap.size + 1) (by show w.heap.size + 1 < wr.heap.size; omega) (by simp; omega)).trans hv1
          have k4 := (g4.block w.heap.size (by omega) (fun e => by have := ho4 e.symm; omega)).trans k3
          have k41 := (g4.block (w.heap.size + 1) (by omega) (fun e => by have := ho4 e.symm; omega)).trans k31
          have hD4 : EDAt W4 db rb W.heap.size w.heap.size (.slice a b.length c) b rk' := hD3.same (fun k' hk' => g4.block k' (by omega) (fun e => by have := ho4 e.symm; omega))
          have b3 : Below w.heap.size w U3 := hlow.grown (w' := U3) (show wr.grownBy U3 (some rb) from ⟨g3.os, g3.tape, g3.output, g3.size, g3.block⟩) (by omega) (fun q e => by cases e; omega)
          have b4 : Below w.heap.size w W4 := b3.grown g4 (by omega) (fun q e => by have := ho4 e; omega)
          have q3 := cells_at k3 0 _ rfl
          have q3a := (World.cell?_alloc_some U3 ⟨w.heap.size, 0, none⟩ (.cells (evCells ⟨ek, ep, eo, eq, ⟨vk, vi, vm, vt, vl⟩, e9, e10, e11⟩ (.slice sa vl.length sc)) 48) (by rw [q3]; rfl)).trans q3
          have q4 := cells_at k4 0 _ rfl
          have qz4 := frozen_at k4 0
          have H4 := hide (And.intro k4 (And.intro k41 (And.intro hD4 (And.intro b4 (And.intro mk4 (hA.next hev))))))
          clear k3 k31 k4 k41 mk3 mk4 i3 g3 g4 lie4 hD3 hD4 b3 b4 hA hD hv hv1 hmk hlow
          refine hK1.out _ _ trivial ?_
          (try simp only [])
          refine wpAnyG_one (i := 2) (by kernel_rfl) rfl (fun K2 hK2 => ?_)
          go_simp
          refine hK2.out _ _ trivial ?_
          (try simp only [Act.put, List.setIfInBounds_toArray])
          refine wpAnyG_one (i := 3) (by kernel_rfl) rfl (fun K3 hK3 => ?_)
          refine step_runV _ (by rfl) (.tmp 18) (.tmp 20) 22 (by rfl) _ _ (by rfl) (by rfl) _ W4 hrun ?_
          refine hK3.out _ _ trivial ?_
          (try simp only [Act.put, List.setIfInBounds_toArray])
          refine wpAnyG_one (i := 4) (by kernel_rfl) rfl (fun K4 hK4 => ?_)
          go_simp
          refine hK4.out _ _ trivial ?_
          refine wpAnyG_end (by kernel_rfl) ?_
          go_wp2
          go_roundw
          case rel =>
            obtain ⟨k4, k41, hD4, b4, mk4, hA4⟩ := H4.out
            have hs : ∀ k', k' ≠ w.heap.size → (W4.setCell ⟨w.heap.size, 0, none⟩ (.slice (some ⟨gq, 0, none⟩) (acc.length + 1) cap)).heap[k']? = W4.heap[k']? := fun k' h => Below.heap_setCell _ _ _ _ h
            refine ⟨k + 1, acc ++ [⟨ek, ep, eo, eq, ⟨vk, vi, vm, vt, vl⟩, e9, e10, e11⟩], .slice (some ⟨gq, 0, none⟩) (acc.length + 1) cap, rk', by omega, by go_num, ?_, ?_, heap_setCell_same _ _ 0 _ _ _ k4, (hs _ (by omega)).trans k41, mk4.far (by simp [World.setCell]) (fun k' h1 _ => hs k' (by omega)), by have := hok.1; simp; omega, b4.setCell (p := ⟨w.heap.size, 0, none⟩) (Nat.le_refl _) _⟩
            · rw [show n - (k + 1) = j by omega]
              exact hA4
            · have hz := b4.size
              have hbk := hD4.hB
              have hlo := hD4.hlo
              have hbl := (Array.getElem?_eq_some_iff.1 hD4.blk).1
              refine ⟨(hs _ (by omega)).trans hD4.blk, hD4.bytes.mono (fun b' o _ hb' => World.cell?_of_block (hs b' (by omega))) (Nat.le_refl _) (Nat.le_refl _), hD4.rd.kept (fun k' h1 h2 => hs k' (by omega)) hlo, hD4.at', hbk, hlo, hD4.hrb⟩
          case measure => simp [intOf]; omega
      case pb =>
        go_simp
        obtain ⟨hA, hD, hv, hv1, hmk, hlen, hlow⟩ := HH.out
        cases hev : decEv6 rk with
        | none =>
          go_at_call 39
          refine HEV.out.mono ?_
          rintro e U3 ⟨g3, hm⟩
          rw [hev] at hm
          subst hm
          have q0 := (g3.block w.heap.size (by show w.heap.size < wr.heap.size; omega) (by simp; omega)).trans hv
          have q1' := (g3.block (w.heap.size + 1) (by show w.heap.size + 1 < wr.heap.size; omega) (by simp; omega)).trans hv1
          have b3 : Below w.heap.size w U3 := hlow.grown (w' := U3) (show wr.grownBy U3 (some rb) from ⟨g3.os, g3.tape, g3.output, g3.size, g3.block⟩) (by omega) (fun q e => by cases e; omega)
          have hno : decL6 b = none := by rw [HF.out, hA.stop hev]
          refine leaves_cons (f := 35) (args := #[.pointer (some ⟨w.heap.size, 0, none⟩), .pointer (some ⟨w.heap.size + 1, 0, none⟩)]) (by simp) (by simp [go_sem]) ?_
          refine (dCatch6 w.heap.size (w.heap.size + 1) U3 61 (by omega) ⟨_, q0⟩ ⟨_, q1'⟩).mono ?_
          rintro e u' w9 ⟨rfl, rfl, q1, q2, q3, q4, q5, q6, q7⟩
          refine ⟨_, results2 (t0 := 22) (t1 := 24) rfl _ _ ⟨w.heap.size, 0, none⟩ ⟨w.heap.size + 1, 0, none⟩ (.slice none 0 0) (.int .i64 61) rfl rfl (load_evs q1) (load_errno q2), ?_⟩
          refine ⟨⟨q5.trans b3.os, q6.trans b3.tape, q7.trans b3.output, by rw [q3]; exact b3.size, fun j hj => (q4 j (by omega) (by omega)).trans (b3.block j hj)⟩, ?_⟩
          rw [hno]
        | some z =>
          obtain ⟨⟨ek, ep, eo, eq, ⟨vk, vi, vm, vt, vl⟩, e9, e10, e11⟩, rk'⟩ := z
          have hrl : rk.length ≤ 1000000000000 := by omega
          have hok := decEv6_ok hrl hev
          go_at_call 39
          refine HEV.out.mono ?_
          rintro e U3 ⟨g3, hm⟩
          rw [hev] at hm
          obtain ⟨⟨s3, rfl, i3⟩, hD3⟩ := hm
          obtain ⟨sa, sc, rfl, _⟩ := i3.len
          have hz3 : wr.heap.size ≤ U3.heap.size := g3.size
          have mk3 : EvMk U3 (db + 1) 4097 (.slice va acc.length vc) acc := hmk.far hz3 (fun k' h1 h2 => g3.block k' h2 (by simp; omega))
          obtain ⟨gq, cap, W4, hrun, mk4, g4, lie4⟩ := mk3.push (by omega) (by omega) ⟨ek, ep, eo, eq, ⟨vk, vi, vm, vt, vl⟩, e9, e10, e11⟩ 22 (i3.kept (fun _ _ _ => rfl) (fun b' hb' => ⟨by have := hb'.1; have : wr.drew.heap.size = wr.heap.size := rfl; omega, hb'.2, fun e => by have := (hmk.lt e).2; have := hb'.1; have : wr.drew.heap.size = wr.heap.size := rfl; omega⟩)) hok.2.1 hok.2.2.2
          have ho4 : ∀ {q : Nat}, (Value.slice va acc.length vc).ownBlock = some q → db + 1 ≤ q := fun e => (hmk.lt e).1
          have k3 := (g3.block w.heap.size (by show w.heap.size < wr.heap.size; omega) (by simp; omega)).trans hv
          have k31 := (g3.block (w.heap.size + 1) (by show w.heap.size + 1 < wr.heap.size; omega) (by simp; omega)).trans hv1
          have k4 := (g4.block w.heap.size (by omega) (fun e => by have := ho4 e.symm; omega)).trans k3
          have k41 := (g4.block (w.heap.size + 1) (by omega) (fun e => by have := ho4 e.symm; omega)).trans k31
          have hD4 : EDAt W4 db rb W.heap.size w.heap.size (.slice a b.length c) b rk' := hD3.same (fun k' hk' => g4.block k' (by omega) (fun e => by have := ho4 e.symm; omega))
          have b3 : Below w.heap.size w U3 := hlow.grown (w' := U3) (show wr.grownBy U3 (some rb) from ⟨g3.os, g3.tape, g3.output, g3.size, g3.block⟩) (by omega) (fun q e => by cases e; omega)
          have b4 : Below w.heap.size w W4 := b3.grown g4 (by omega) (fun q e => by have := ho4 e; omega)
          have q3 := cells_at k3 0 _ rfl
          have q3a := (World.cell?_alloc_some U3 ⟨w.heap.size, 0, none⟩ (.cells (evCells ⟨ek, ep, eo, eq, ⟨vk, vi, vm, vt, vl⟩, e9, e10, e11⟩ (.slice sa vl.length sc)) 48) (by rw [q3]; rfl)).trans q3
          have q4 := cells_at k4 0 _ rfl
          have qz4 := frozen_at k4 0
          have H4 := hide (And.intro k4 (And.intro k41 (And.intro hD4 (And.intro b4 (And.intro mk4 (hA.next hev))))))
          clear k3 k31 k4 k41 mk3 mk4 i3 g3 g4 lie4 hD3 hD4 b3 b4 hA hD hv hv1 hmk hlow
          refine hK.out _ _ trivial ?_
          (try simp only [])
          refine wpAnyG_two (i := 0) (j := 2) (by kernel_rfl) rfl rfl (fun K5 hK5 => ?pc) (fun K5 hK5 => ?pd)
          case pc =>
            go_simp
            refine hK5.out _ _ trivial ?_
            (try simp only [Act.put, List.setIfInBounds_toArray])
            refine wpAnyG_one (i := 2) (by kernel_rfl) rfl (fun K2 hK2 => ?_)
            go_simp
            refine hK2.out _ _ trivial ?_
            (try simp only [Act.put, List.setIfInBounds_toArray])
            refine wpAnyG_one (i := 3) (by kernel_rfl) rfl (fun K3 hK3 => ?_)
            refine step_runV _ (by rfl) (.tmp 18) (.tmp 20) 22 (by rfl) _ _ (by rfl) (by rfl) _ W4 hrun ?_
            refine hK3.out _ _ trivial ?_
            (try simp only [Act.put, List.setIfInBounds_toArray])
            refine wpAnyG_one (i := 4) (by kernel_rfl) rfl (fun K4 hK4 => ?_)
            go_simp
            refine hK4.out _ _ trivial ?_
            refine wpAnyG_end (by kernel_rfl) ?_
            go_wp2
            go_roundw
            case rel =>
              obtain ⟨k4, k41, hD4, b4, mk4, hA4⟩ := H4.out
              have hs : ∀ k', k' ≠ w.heap.size → (W4.setCell ⟨w.heap.size, 0, none⟩ (.slice (some ⟨gq, 0, none⟩) (acc.length + 1) cap)).heap[k']? = W4.heap[k']? := fun k' h => Below.heap_setCell _ _ _ _ h
              refine ⟨k + 1, acc ++ [⟨ek, ep, eo, eq, ⟨vk, vi, vm, vt, vl⟩, e9, e10, e11⟩], .slice (some ⟨gq, 0, none⟩) (acc.length + 1) cap, rk', by omega, by go_num, ?_, ?_, heap_setCell_same _ _ 0 _ _ _ k4, (hs _ (by omega)).trans k41, mk4.far (by simp [World.setCell]) (fun k' h1 _ => hs k' (by omega)), by have := hok.1; simp; omega, b4.setCell (p := ⟨w.heap.size, 0, none⟩) (Nat.le_refl _) _⟩
              · rw [show n - (k + 1) = j by omega]
                exact hA4
              · have hz := b4.size
                have hbk := hD4.hB
                have hlo := hD4.hlo
                have hbl := (Array.getElem?_eq_some_iff.1 hD4.blk).1
                refine ⟨(hs _ (by omega)).trans hD4.blk, hD4.bytes.mono (fun b' o _ hb' => World.cell?_of_block (hs b' (by omega))) (Nat.le_refl _) (Nat.le_refl _), hD4.rd.kept (fun k' h1 h2 => hs k' (by omega)) hlo, hD4.at', hbk, hlo, hD4.hrb⟩
            case measure => simp [intOf]; omega
          case pd =>
            go_simp
            refine hK5.out _ _ trivial ?_
            (try simp only [Act.put, List.setIfInBounds_toArray])
            refine wpAnyG_one (i := 0) (by kernel_rfl) rfl (fun K2 hK2 => ?_)
            go_simp
            refine hK2.out _ _ trivial ?_
            (try simp only [Act.put, List.setIfInBounds_toArray])
            refine wpAnyG_one (i := 3) (by kernel_rfl) rfl (fun K3 hK3 => ?_)
            refine step_runV _ (by rfl) (.tmp 18) (.tmp 20) 22 (by rfl) _ _ (by rfl) (by rfl) _ W4 hrun ?_
            refine hK3.out _ _ trivial ?_
            (try simp only [Act.put, List.setIfInBounds_toArray])
            refine wpAnyG_one (i := 4) (by kernel_rfl) rfl (fun K4 hK4 => ?_)
            go_simp
            refine hK4.out _ _ trivial ?_
            refine wpAnyG_end (by kernel_rfl) ?_
            go_wp2
            go_roundw
            case rel =>
              obtain ⟨k4, k41, hD4, b4, mk4, hA4⟩ := H4.out
              have hs : ∀ k', k' ≠ w.heap.size → (W4.setCell ⟨w.heap.size, 0, none⟩ (.slice (some ⟨gq, 0, none⟩) (acc.length + 1) cap)).heap[k']? = W4.heap[k']? := fun k' h => Below.heap_setCell _ _ _ _ h
              refine ⟨k + 1, acc ++ [⟨ek, ep, eo, eq, ⟨vk, vi, vm, vt, vl⟩, e9, e10, e11⟩], .slice (some ⟨gq, 0, none⟩) (acc.length + 1) cap, rk', by omega, by go_num, ?_, ?_, heap_setCell_same _ _ 0 _ _ _ k4, (hs _ (by omega)).trans k41, mk4.far (by simp [World.setCell]) (fun k' h1 _ => hs k' (by omega)), by have := hok.1; simp; omega, b4.setCell (p := ⟨w.heap.size, 0, none⟩) (Nat.le_refl _) _⟩
              · rw [show n - (k + 1) = j by omega]
                exact hA4
              · have hz := b4.size
                have hbk := hD4.hB
                have hlo := hD4.hlo
                have hbl := (Array.getElem?_eq_some_iff.1 hD4.blk).1
                refine ⟨(hs _ (by omega)).trans hD4.blk, hD4.bytes.mono (fun b' o _ hb' => World.cell?_of_block (hs b' (by omega))) (Nat.le_refl _) (Nat.le_refl _), hD4.rd.kept (fun k' h1 h2 => hs k' (by omega)) hlo, hD4.at', hbk, hlo, hD4.hrb⟩
            case measure => simp [intOf]; omega
    · have hkn : k = n := by omega
      subst hkn
      rw [Nat.sub_self] at hA
      have hdone := hA.done
      have d1 := cells_at hD.blk 1 _ rfl
      have HEND := hide (rEnd wr rb W.heap.size rk hD.rd)
      obtain ⟨va, vc, rfl⟩ := hmk.len
      by_cases hr0 : rk.length = 0
      · rw [if_pos hr0] at HEND
        have hok : decL6 b = some acc := by rw [HF.out, hdone]; simp only; rw [if_pos hr0]
        have v0 := cells_at hv 0 _ rfl
        have vz0 := frozen_at hv 0
        have x0 := cells_at hv1 0 _ rfl
        have xz0 := frozen_at hv1 0
        have w1' : wr.setCell ⟨w.heap.size, 0, none⟩ (.slice va acc.length vc) = wr := setCell_selfV v0
        have w2' : wr.setCell ⟨w.heap.size + 1, 0, none⟩ (.int .i64 0) = wr := setCell_selfV x0
        have HH := hide (And.intro hv (And.intro hv1 (And.intro hmk (And.intro hlow hok))))
        clear hA hD hv hv1 hmk hlow hok hdone
        go_wp2_with (go_at_call 40; refine HEND.out.mono ?_; clear HEND; rintro e w5 ⟨rfl, rfl⟩)
        refine leaves_cons (f := 35) (args := #[.pointer (some ⟨w.heap.size, 0, none⟩), .pointer (some ⟨w.heap.size + 1, 0, none⟩)]) (by simp) (by simp [go_sem]) ?_
        refine (dIdle6 _ _ _).mono ?_
        rintro e u' w9 ⟨rfl, rfl, rfl⟩
        obtain ⟨hv, hv1, hmk, hlow, hok⟩ := HH.out
        refine ⟨_, results2 (t0 := 22) (t1 := 24) rfl _ _ ⟨w.heap.size, 0, none⟩ ⟨w.heap.size + 1, 0, none⟩ (.slice va acc.length vc) (.int .i64 0) rfl rfl (load_evs hv) (load_errno hv1), ?_⟩
        refine ⟨hlow, ?_⟩
        rw [hok]
        exact ⟨_, rfl, hmk.down (by omega)⟩
      · rw [if_neg hr0] at HEND
        have hno : decL6 b = none := by rw [HF.out, hdone]; simp only; rw [if_neg hr0]
        have HH := hide (And.intro hv (And.intro hv1 (And.intro hlow hno)))
        clear hA hD hv hv1 hmk hlow hno hdone
        go_wp2_with (go_at_call 40; refine HEND.out.mono ?_; clear HEND; rintro e w5 ⟨rfl, rfl⟩)
        obtain ⟨hv, hv1, hlow, hno⟩ := HH.out
        refine leaves_cons (f := 35) (args := #[.pointer (some ⟨w.heap.size, 0, none⟩), .pointer (some ⟨w.heap.size + 1, 0, none⟩)]) (by simp) (by simp [go_sem]) ?_
        refine (dCatch6 w.heap.size (w.heap.size + 1) w5 61 (by omega) ⟨_, hv⟩ ⟨_, hv1⟩).mono ?_
        rintro e u' w9 ⟨rfl, rfl, q1, q2, q3, q4, q5, q6, q7⟩
        refine ⟨_, results2 (t0 := 22) (t1 := 24) rfl _ _ ⟨w.heap.size, 0, none⟩ ⟨w.heap.size + 1, 0, none⟩ (.slice none 0 0) (.int .i64 61) rfl rfl (load_evs q1) (load_errno q2), ?_⟩
        refine ⟨⟨q5.trans hlow.os, q6.trans hlow.tape, q7.trans hlow.output, by rw [q3]; exact hlow.size, fun j hj => (q4 j (by omega) (by omega)).trans (hlow.block j hj)⟩, ?_⟩
        rw [hno]
theorem decode6_kB (w : World) (sl : Value) (b : List UInt8) (hB : BytesIn w 0 w.heap.size sl b) (hb : b.length ≤ 1000000000000) (hn9 : b.length < 1000000000 ∨ (front b).1 < 1000000000) (hT : Tabs w) :
    Calls Tryz.prog 18 #[sl] w fun e w' => De6 w b e w' := by
  by_cases hf : (front b).2.2 = 0
  · exact decode6_go w sl b hB hb hn9 hT hf
  · exact decode6_no w sl b hB hb hT hf
theorem decode6_k (w : World) (sl : Value) (b : List UInt8) (hB : BytesIn w 0 w.heap.size sl b) (hb : b.length ≤ 1048576) (hT : Tabs w) :
    Calls Tryz.prog 18 #[sl] w fun e w' => De6 w b e w' := decode6_kB w sl b hB (by omega) (.inl (by omega)) hT
end Go.Proofs.YthmhcpghfbifiaaGreatDoor
