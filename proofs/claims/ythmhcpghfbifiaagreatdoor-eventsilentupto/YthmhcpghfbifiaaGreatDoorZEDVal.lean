/- The value of an event out of bytes. -/
import Derived.Test.YthmhcpghfbifiaaGreatDoorGE8
import Derived.Test.YthmhcpghfbifiaaGreatDoorGParC
import Derived.Test.YthmhcpghfbifiaaGreatDoorGEA
namespace Go.Proofs.YthmhcpghfbifiaaGreatDoor
open Go.RowKit

theorem sureV_6nA (k i m : Int) (t : ByteArray) (a : Option Addr) (n c : Nat) (e : Int) (he : ¬ e = 0) (w : World) : Calls Tryz.prog 81 #[.agg #[.int .i64 k, .int .i64 i, .int .i64 m, .string t, .slice a n c], .int .i64 e] w fun o w' => o = gaveUp6 ∧ Below w.heap.size w w' := by
  have hb : (e != 0) = true := by simp [he]
  go_enter Tryz.func81, Tryz.ntmps81
  go_wp2
  exact ⟨rfl, rfl, alloc_v (alloc_v (Below.refl _ _) _) _⟩
theorem dec_no (w : World) (sl : Value) (l : List UInt8) (hT : Tabs w) (hB : BytesIn w 0 w.heap.size sl l) (hl : l.length ≤ 1000000000000) (hd : decVal6 l = none) :
    Calls Tryz.prog 79 #[sl] w fun e w' => e = .returned (.tuple #[.agg zcells, .int .i64 0, .int .i64 41]) ∧ Below w.heap.size w w' := by
  unfold decVal6 at hd
  cases h : decM l 4097 0 0 with
  | none => exact decode_none 4097 w sl l hB hl (by omega) h
  | some z =>
    obtain ⟨v, p, q⟩ := z
    rw [h] at hd
    simp only at hd
    split at hd
    · cases hd
    · rename_i hr
      exact decode_wrong 4097 w sl l v p q hT hB hl h (by simpa using hr)
theorem EDAt.same {w w' : World} {db rb lo B : Nat} {sl : Value} {l r : List UInt8} (h : EDAt w db rb lo B sl l r) (hk : ∀ k, k ≤ db → w'.heap[k]? = w.heap[k]?) : EDAt w' db rb lo B sl l r := by
  have h1 := h.hB
  have h2 := h.hlo
  have h3 := h.hrb
  exact ⟨(hk _ (Nat.le_refl _)).trans h.blk, h.bytes.mono (fun b o _ hb => World.cell?_of_block (hk b (by omega))) (Nat.le_refl _) (Nat.le_refl _), h.rd.kept (fun k _ hk' => hk k (by omega)) h2, h.at', h1, h2, h3⟩

set_option maxRecDepth 100000 in
set_option maxHeartbeats 2000000 in
theorem dval_ok (w : World) (db rb lo B : Nat) (sl : Value) (l r : List UInt8) (n : Nat) (hD : EDAt w db rb lo B sl l r) (hT : Tabs w) (hl : l.length ≤ 1000000000000) (v : Vl) (q q' : Nat) (hd : decM r n 0 0 = some (v, q, q')) (hr : rightV v = true) :
    Calls Tryz.prog 65 #[.pointer (some ⟨db, 0, none⟩)] w fun e w' => ∃ s', e = .returned (.agg (vcells v s')) ∧ ItemsIn w' (fun b => w.heap.size ≤ b ∧ b < w'.heap.size) n s' v.items ∧ EDAt w' db rb lo B sl l (r.drop q) ∧ w.grownBy w' (some rb) := by
  obtain ⟨a, ca, rfl, hlc, hcm, _⟩ := id hD.bytes
  obtain ⟨p, hp0, hrp⟩ := hD.at'
  have hdb : db < w.heap.size := (Array.getElem?_eq_some_iff.1 hD.blk).1
  have hrl : r.length = l.length - p := by rw [hrp, List.length_drop]
  obtain ⟨a1, c1, hsl, hb1⟩ := slice_low w .i64 a ca hD.bytes p hp0
  rw [← hrp, ← hrl] at hb1
  rw [← hrl] at hsl
  obtain ⟨m, hm⟩ : ∃ m, r.length = m := ⟨_, rfl⟩
  have hsub : IntKind.i64.wrap ((l.length : Int) - (m : Int)) = (p : Int) := by rw [IntKind.wrap_i64]; omega
  obtain ⟨W, hW⟩ : ∃ W, w.alloc (.cells zcells 46) = W := ⟨_, rfl⟩
  have bW : Below w.heap.size w W := by rw [← hW]; exact alloc_v (Below.refl _ _) _
  have zW : W.heap.size = w.heap.size + 1 := by rw [← hW]; simp
  have e1 : W.heap[w.heap.size]? = some (.cells zcells 46 (0, 0)) := by rw [← hW]; exact World.alloc_heap_new w _
  have f1 : W.heap[db]? = some (.cells #[.slice a l.length ca, .pointer (some ⟨rb, 0, none⟩)] 85 (0, 0)) := (bW.block _ hdb).trans hD.blk
  have x0 := cells_at f1 0 _ rfl
  have x1 := cells_at f1 1 _ rfl
  have h1 := hD.hB
  have h2 := hD.hlo
  have h3 := hD.hrb
  have HLF := hide (fun U (h : Rd U rb lo r) => rLeft U rb lo r h)
  rw [hm] at hb1 hsl HLF
  have HRD := hide (fun (U : World) (b : Below W.heap.size W U) => hD.rd.kept (w' := U) (fun k _ hk => (b.block k (by omega)).trans (bW.block k (by omega))) hD.hlo)
  have HSH := hide (fun (U : World) (b : Below W.heap.size W U) => (show U.cell? ⟨db, 0, none⟩ = some (.slice a l.length ca) ∧ U.cell? ⟨db, 1, none⟩ = some (.pointer (some ⟨rb, 0, none⟩)) ∧ Below W.heap.size W U from ⟨(b.cell (p := ⟨db, 0, none⟩) (World.block_lt_of_cell? _ _ x0)).trans x0, (b.cell (p := ⟨db, 1, none⟩) (World.block_lt_of_cell? _ _ x1)).trans x1, b⟩))
  have HBY := hide (fun (U : World) (b : Below W.heap.size W U) => hb1.mono (w' := U) (fun b' o _ hb => (b.cell (p := ⟨b', o, none⟩) (by show b' < _; omega)).trans (bW.cell (p := ⟨b', o, none⟩) (by show b' < _; omega))) (Nat.le_refl 0) (show B ≤ U.heap.size by have := b.size; omega))
  obtain ⟨vk, vi, vm, vt, vl⟩ := v
  have HDEC := hide (fun (U : World) (b : Below W.heap.size W U) => decode_ok n U (.slice a1 m c1) r ⟨vk, vi, vm, vt, vl⟩ q q' ((hT.below bW).below b) (HBY.out U b) (by omega) hd hr)
  obtain ⟨c, hc⟩ : ∃ c : Int, c = 0 := ⟨0, rfl⟩
  have HQ := hide (decM_le r n (Nat.zero_le _) hd)
  rw [← hc] at HDEC
  have HC0 := hide hc
  clear hd hr hc
  have HM := hide (And.intro hm (And.intro hrl (And.intro hrp (And.intro hD (And.intro e1 hp0)))))
  clear f1 hm hrl hrp hD hb1 hT e1 hlc HBY
  go_enter Tryz.func65, Tryz.ntmps65
  go_wp2
  clear hW
  refine Code.wp_mono (Q := fun e a' U => e = .normal ∧ ∃ (R : Nat) (sl3 : Value), a' = ⟨#[.pointer (some ⟨db, 0, none⟩), undef, .pointer (some ⟨w.heap.size, 0, none⟩), .pointer (some ⟨R, 0, none⟩), .int .i64 q, .int .i64 c, .tuple #[.agg #[.int .i64 vk, .int .i64 vi, .int .i64 vm, .string vt, sl3], .int .i64 q, .int .i64 c], .pointer (some ⟨db, 0, none⟩), .pointer (some ⟨db, 0, none⟩), .pointer (some ⟨db, 0, none⟩), .slice a l.length ca, .pointer (some ⟨db, 0, none⟩), .pointer (some ⟨db, 0, none⟩), .pointer (some ⟨db, 0, none⟩), .slice a l.length ca, .int .i64 l.length, .pointer (some ⟨db, 0, none⟩), .pointer (some ⟨db, 0, none⟩), .pointer (some ⟨db, 1, none⟩), .pointer (some ⟨rb, 0, none⟩), .int .i64 m, .int .i64 p, .slice a1 m c1, .tuple #[.agg #[.int .i64 vk, .int .i64 vi, .int .i64 vm, .string vt, sl3], .int .i64 q, .int .i64 c], .agg #[.int .i64 vk, .int .i64 vi, .int .i64 vm, .string vt, sl3], .int .i64 q, .int .i64 c, undef, undef, undef, undef, undef, undef, undef, undef, undef, undef, undef, undef, undef, undef, undef, undef], []⟩ ∧ w.heap.size < R ∧ U.heap[R]? = some (.cells #[.int .i64 vk, .int .i64 vi, .int .i64 vm, .string vt, sl3] 46 (0, 0)) ∧ ItemsIn U (fun b => w.heap.size < b ∧ b ≠ R ∧ b < U.heap.size) n sl3 vl ∧ Below W.heap.size W U) ?restZ
    (wp_region_G 25 (fun U => U.cell? ⟨db, 0, none⟩ = some (.slice a l.length ca) ∧ U.cell? ⟨db, 1, none⟩ = some (.pointer (some ⟨rb, 0, none⟩)) ∧ Below W.heap.size W U) (by kernel_rfl) (by kernel_rfl) ?regZ)
  case regZ =>
    have HZ := hide zW
    clear x0 x1 zW
    refine wpAnyG_take (i := 0) (v := ?v1) (by kernel_rfl) rfl (by kernel_rfl) (by kernel_rfl) (fun _ _ _ h => by cases h.1) (Or.inl ⟨by rfl, ?hy1⟩) (HSH.out _ (below_drew (Below.refl _ _))) ?rest1
    case hy1 => intro U hU; obtain ⟨hu0, hu1, _⟩ := hU; go_simp; (try with_reducible rfl)
    case rest1 =>
    (try simp only [Act.put, List.setIfInBounds_toArray])
    refine wpAnyG_take (i := 1) (v := ?v2) (by kernel_rfl) rfl (by kernel_rfl) (by kernel_rfl) (fun _ _ _ h => by cases h.1) (Or.inl ⟨by rfl, ?hy2⟩) (HSH.out _ (below_drew (Below.refl _ _))) ?rest2
    case hy2 => intro U hU; obtain ⟨hu0, hu1, _⟩ := hU; go_simp; (try with_reducible rfl)
    case rest2 =>
    (try simp only [Act.put])
    refine wpAnyG_take (i := 2) (v := ?v3) (by kernel_rfl) rfl (by kernel_rfl) (by kernel_rfl) (fun _ _ _ h => by cases h.1) (Or.inl ⟨by rfl, ?hy3⟩) (HSH.out _ (below_drew (Below.refl _ _))) ?rest3
    case hy3 => intro U hU; obtain ⟨hu0, hu1, _⟩ := hU; go_simp; (try with_reducible rfl)
    case rest3 =>
    (try simp only [Act.put])
    refine wpAnyG_take (i := 3) (v := ?v4) (by kernel_rfl) rfl (by kernel_rfl) (by kernel_rfl) (fun _ _ _ h => by cases h.1) (Or.inl ⟨by rfl, ?hy4⟩) (HSH.out _ (below_drew (Below.refl _ _))) ?rest4
    case hy4 => intro U hU; obtain ⟨hu0, hu1, _⟩ := hU; go_simp; (try with_reducible rfl)
    case rest4 =>
    (try simp only [Act.put])
    refine wpAnyG_take (i := 4) (v := ?v5) (by kernel_rfl) rfl (by kernel_rfl) (by kernel_rfl) (fun _ _ _ h => by cases h.1) (Or.inl ⟨by rfl, ?hy5⟩) (HSH.out _ (below_drew (Below.refl _ _))) ?rest5
    case hy5 => intro U hU; obtain ⟨hu0, hu1, _⟩ := hU; go_simp; (try with_reducible rfl)
    case rest5 =>
    (try simp only [Act.put])
    refine wpAnyG_take (i := 5) (v := ?v6) (by kernel_rfl) rfl (by kernel_rfl) (by kernel_rfl) (fun _ _ _ h => by cases h.1) (Or.inl ⟨by rfl, ?hy6⟩) (HSH.out _ (below_drew (Below.refl _ _))) ?rest6
    case hy6 => intro U hU; obtain ⟨hu0, hu1, _⟩ := hU; go_simp; (try with_reducible rfl)
    case rest6 =>
    (try simp only [Act.put])
    refine wpAnyG_take (i := 6) (v := ?v7) (by kernel_rfl) rfl (by kernel_rfl) (by kernel_rfl) (fun _ _ _ h => by cases h.1) (Or.inl ⟨by rfl, ?hy7⟩) (HSH.out _ (below_drew (Below.refl _ _))) ?rest7
    case hy7 => intro U hU; obtain ⟨hu0, hu1, _⟩ := hU; go_simp; (try with_reducible rfl)
    case rest7 =>
    (try simp only [Act.put])
    refine wpAnyG_take (i := 7) (v := ?v8) (by kernel_rfl) rfl (by kernel_rfl) (by kernel_rfl) (fun _ _ _ h => by cases h.1) (Or.inl ⟨by rfl, ?hy8⟩) (HSH.out _ (below_drew (Below.refl _ _))) ?rest8
    case hy8 => intro U hU; obtain ⟨hu0, hu1, _⟩ := hU; go_simp; (try with_reducible rfl)
    case rest8 =>
    (try simp only [Act.put])
    refine wpAnyG_take (i := 8) (v := ?v9) (by kernel_rfl) rfl (by kernel_rfl) (by kernel_rfl) (fun _ _ _ h => by cases h.1) (Or.inl ⟨by rfl, ?hy9⟩) (HSH.out _ (below_drew (Below.refl _ _))) ?rest9
    case hy9 => intro U hU; obtain ⟨hu0, hu1, _⟩ := hU; go_simp; (try with_reducible rfl)
    case rest9 =>
    (try simp only [Act.put])
    refine wpAnyG_take (i := 9) (v := ?v10) (by kernel_rfl) rfl (by kernel_rfl) (by kernel_rfl) (fun _ _ _ h => by cases h.1) (Or.inl ⟨by rfl, ?hy10⟩) (HSH.out _ (below_drew (Below.refl _ _))) ?rest10
    case hy10 => intro U hU; obtain ⟨hu0, hu1, _⟩ := hU; go_simp; (try with_reducible rfl)
    case rest10 =>
    (try simp only [Act.put])
    refine wpAnyG_take (i := 10) (v := ?v11) (by kernel_rfl) rfl (by kernel_rfl) (by kernel_rfl) (fun _ _ _ h => by cases h.1) (Or.inl ⟨by rfl, ?hy11⟩) (HSH.out _ (below_drew (Below.refl _ _))) ?rest11
    case hy11 => intro U hU; obtain ⟨hu0, hu1, _⟩ := hU; go_simp; (try with_reducible rfl)
    case rest11 =>
    (try simp only [Act.put])
    refine wpAnyG_take (i := 11) (v := ?v12) (by kernel_rfl) rfl (by kernel_rfl) (by kernel_rfl) (fun _ _ _ h => by cases h.1) (Or.inl ⟨by rfl, ?hy12⟩) (HSH.out _ (below_drew (Below.refl _ _))) ?rest12
    case hy12 => intro U hU; obtain ⟨hu0, hu1, _⟩ := hU; go_simp; (try with_reducible rfl)
    case rest12 =>
    (try simp only [Act.put])
    refine wpAnyG_take (i := 12) (v := ?v13) (by kernel_rfl) rfl (by kernel_rfl) (by kernel_rfl) (fun _ _ _ h => by cases h.1) (Or.inl ⟨by rfl, ?hy13⟩) (HSH.out _ (below_drew (Below.refl _ _))) ?rest13
    case hy13 => intro U hU; obtain ⟨hu0, hu1, _⟩ := hU; go_simp; (try with_reducible rfl)
    case rest13 =>
    (try simp only [Act.put])
    refine wpAnyG_two (i := 13) (j := 21) (by kernel_rfl) rfl rfl (fun K hK => ?ca) (fun K hK => ?al)
    case ca =>
      go_simp
      go_at_call 80
      refine (HLF.out _ (HRD.out _ (below_drew (Below.refl _ _)))).mono ?_
      rintro e U ⟨rfl, rfl⟩
      refine hK.out _ _ (HSH.out _ (below_drew (Below.refl _ _))) ?_
      (try simp only [Act.put, List.setIfInBounds_toArray])
      refine wpAnyG_take (i := 14) (v := ?v14) (by kernel_rfl) rfl (by kernel_rfl) (by kernel_rfl) (fun _ _ _ h => by cases h.1) (Or.inl ⟨by rfl, ?hy14⟩) (HSH.out _ (below_drew (Below.refl _ _))) ?rest14
      case hy14 => intro U hU; obtain ⟨hu0, hu1, _⟩ := hU; go_simp; (try with_reducible rfl)
      case rest14 =>
      (try simp only [Act.put, List.setIfInBounds_toArray])
      refine wpAnyG_take (i := 15) (v := ?v15) (by kernel_rfl) rfl (by kernel_rfl) (by kernel_rfl) (fun _ _ _ h => by cases h.1) (Or.inl ⟨by rfl, ?hy15⟩) (HSH.out _ (below_drew (Below.refl _ _))) ?rest15
      case hy15 => intro U hU; obtain ⟨hu0, hu1, _⟩ := hU; go_simp; (try with_reducible rfl)
      case rest15 =>
      (try simp only [Act.put])
      refine wpAnyG_two (i := 16) (j := 21) (by kernel_rfl) rfl rfl (fun K1 hK1 => ?cb) (fun K1 hK1 => ?am)
      case cb =>
        go_simp
        go_at_call 79
        refine (HDEC.out _ (below_drew (Below.refl _ _))).mono ?_
        rintro e U ⟨s', rfl, i3, b3⟩
        obtain ⟨sa, sc, rfl, _⟩ := i3.len
        have bU : Below W.heap.size W U := trans_v (below_drew (Below.refl _ _)) b3
        refine hK1.out _ _ (HSH.out _ bU) ?_
        (try simp only [Act.put, List.setIfInBounds_toArray])
        refine wpAnyG_take (i := 17) (v := ?v16) (by kernel_rfl) rfl (by kernel_rfl) (by kernel_rfl) (fun _ _ _ h => by cases h.1) (Or.inl ⟨by rfl, ?hy16⟩) (HSH.out _ bU) ?rest16
        case hy16 => intro U hU; obtain ⟨hu0, hu1, _⟩ := hU; go_simp; (try with_reducible rfl)
        case rest16 =>
        (try simp only [Act.put, List.setIfInBounds_toArray])
        refine wpAnyG_take (i := 18) (v := ?v17) (by kernel_rfl) rfl (by kernel_rfl) (by kernel_rfl) (fun _ _ _ h => by cases h.1) (Or.inl ⟨by rfl, ?hy17⟩) (HSH.out _ bU) ?rest17
        case hy17 => intro U hU; obtain ⟨hu0, hu1, _⟩ := hU; go_simp; (try with_reducible rfl)
        case rest17 =>
        (try simp only [Act.put])
        refine wpAnyG_take (i := 19) (v := ?v18) (by kernel_rfl) rfl (by kernel_rfl) (by kernel_rfl) (fun _ _ _ h => by cases h.1) (Or.inl ⟨by rfl, ?hy18⟩) (HSH.out _ bU) ?rest18
        case hy18 => intro U hU; obtain ⟨hu0, hu1, _⟩ := hU; go_simp; (try with_reducible rfl)
        case rest18 =>
        (try simp only [Act.put])
        refine wpAnyG_take (i := 20) (v := ?v19) (by kernel_rfl) rfl (by kernel_rfl) (by kernel_rfl) (fun _ _ _ h => by cases h.1) (Or.inl ⟨by rfl, ?hy19⟩) (HSH.out _ bU) ?rest19
        case hy19 => intro U hU; obtain ⟨hu0, hu1, _⟩ := hU; go_simp; (try with_reducible rfl)
        case rest19 =>
        (try simp only [Act.put])
        refine wpAnyG_one (i := 21) (by kernel_rfl) rfl (fun K2 hK2 => ?_)
        go_simp
        have bA : Below W.heap.size W (U.alloc (.cells zcells 46)) := alloc_v bU _
        have eA : (U.alloc (.cells zcells 46)).heap[U.heap.size]? = some (.cells zcells 46 (0, 0)) := World.alloc_heap_new U _
        have hRW := bU.size
        have hI : ItemsIn U (fun b => w.heap.size < b ∧ b ≠ U.heap.size ∧ b < U.heap.size) n (.slice sa vl.length sc) vl := i3.kept (fun _ _ _ => rfl) (fun b hb => ⟨by have h1 := hb.1; have h2 : W.drew.heap.size = W.heap.size := rfl; have h3 := HZ.out; omega, by have := hb.2; omega, hb.2⟩)
        have hIA := hI.kept (w' := U.alloc (.cells zcells 46)) (S' := fun b => w.heap.size < b ∧ b ≠ U.heap.size ∧ b < (U.alloc (.cells zcells 46)).heap.size) (fun b o hb => (World.cell?_of_block (Below.heap_alloc _ _ _ hb.2.2))) (fun b hb => ⟨hb.1, hb.2.1, by have := hb.2.2; simp; omega⟩)
        generalize hAA : U.alloc (.cells zcells 46) = V at *
        refine hK2.out _ _ (HSH.out _ bA) ?_
        (try simp only [Act.put, List.setIfInBounds_toArray])
        have g0 := cells_at eA 0 _ rfl
        have gz0 := frozen_at eA 0
        have g1 := cells_at eA 1 _ rfl
        have gz1 := frozen_at eA 1
        have g2 := cells_at eA 2 _ rfl
        have gz2 := frozen_at eA 2
        have g3 := cells_at eA 3 _ rfl
        have gz3 := frozen_at eA 3
        have g4 := cells_at eA 4 _ rfl
        have gz4 := frozen_at eA 4
        refine wpAnyG_one (i := 22) (by kernel_rfl) rfl (fun Ks hKs => ?_)
        go_simp
        have hp := putN_at [.int .i64 vk, .int .i64 vi, .int .i64 vm, .string vt, .slice sa vl.length sc] 0 V _ eA rfl
        have gP := putN_far (grown_of_below (r := none) bA) hRW [.int .i64 vk, .int .i64 vi, .int .i64 vm, .string vt, .slice sa vl.length sc] 0
        have bP : Below W.heap.size W (putN V U.heap.size 0 [.int .i64 vk, .int .i64 vi, .int .i64 vm, .string vt, .slice sa vl.length sc]) := ⟨gP.os, gP.tape, gP.output, gP.size, fun k hk => gP.block k hk (by simp)⟩
        refine hKs.out _ _ (HSH.out _ bP) ?_
        (try simp only [Act.put, List.setIfInBounds_toArray])
        refine wpAnyG_one (i := 23) (by kernel_rfl) rfl (fun K23 hK23 => ?_)
        go_simp
        refine hK23.out _ _ (HSH.out _ bP) ?_
        (try simp only [Act.put, List.setIfInBounds_toArray])
        refine wpAnyG_one (i := 24) (by kernel_rfl) rfl (fun K24 hK24 => ?_)
        go_simp
        refine hK24.out _ _ (HSH.out _ bP) ?_
        (try simp only [Act.put, List.setIfInBounds_toArray])
        refine wpAnyG_end (by kernel_rfl) ?_
        have hIP : ItemsIn (putN V U.heap.size 0 [.int .i64 vk, .int .i64 vi, .int .i64 vm, .string vt, .slice sa vl.length sc]) (fun b => w.heap.size < b ∧ b ≠ U.heap.size ∧ b < (putN V U.heap.size 0 [.int .i64 vk, .int .i64 vi, .int .i64 vm, .string vt, .slice sa vl.length sc]).heap.size) n (.slice sa vl.length sc) vl := hIA.kept (fun b o hb => World.cell?_of_block (putN_other hb.2.1 _ _ _)) (fun b hb => ⟨hb.1, hb.2.1, by rw [putN_size]; exact hb.2.2⟩)
        exact ⟨rfl, U.heap.size, _, rfl, by have := HZ.out; omega, hp, hIP, bP⟩
      case am =>
        go_simp
        have bA : Below W.heap.size W (W.alloc (.cells zcells 46)).drew := below_drew (alloc_v (Below.refl _ _) _)
        have eA : (W.alloc (.cells zcells 46)).drew.heap[W.heap.size]? = some (.cells zcells 46 (0, 0)) := World.alloc_heap_new W _
        generalize hAA : (W.alloc (.cells zcells 46)).drew = V at *
        refine hK1.out _ _ (HSH.out _ bA) ?_
        (try simp only [Act.put, List.setIfInBounds_toArray])
        refine wpAnyG_one (i := 16) (by kernel_rfl) rfl (fun K3 hK3 => ?_)
        go_simp
        go_at_call 79
        refine (HDEC.out _ bA).mono ?_
        rintro e U ⟨s', rfl, i3, b3⟩
        obtain ⟨sa, sc, rfl, _⟩ := i3.len
        have hVW := (Array.getElem?_eq_some_iff.1 eA).1
        have bU : Below W.heap.size W U := trans_v bA b3
        have eU := (b3.block _ hVW).trans eA
        have hI : ItemsIn U (fun b => w.heap.size < b ∧ b ≠ W.heap.size ∧ b < U.heap.size) n (.slice sa vl.length sc) vl := i3.kept (fun _ _ _ => rfl) (fun b hb => ⟨by have h1 := hb.1; have h3 := HZ.out; omega, by have h1 := hb.1; have h3 := HZ.out; omega, hb.2⟩)
        have hRW : W.heap.size ≤ W.heap.size := Nat.le_refl _
        refine hK3.out _ _ (HSH.out _ bU) ?_
        (try simp only [Act.put, List.setIfInBounds_toArray])
        refine wpAnyG_take (i := 17) (v := ?v20) (by kernel_rfl) rfl (by kernel_rfl) (by kernel_rfl) (fun _ _ _ h => by cases h.1) (Or.inl ⟨by rfl, ?hy20⟩) (HSH.out _ bU) ?rest20
        case hy20 => intro U hU; obtain ⟨hu0, hu1, _⟩ := hU; go_simp; (try with_reducible rfl)
        case rest20 =>
        (try simp only [Act.put, List.setIfInBounds_toArray])
        refine wpAnyG_take (i := 18) (v := ?v21) (by kernel_rfl) rfl (by kernel_rfl) (by kernel_rfl) (fun _ _ _ h => by cases h.1) (Or.inl ⟨by rfl, ?hy21⟩) (HSH.out _ bU) ?rest21
        case hy21 => intro U hU; obtain ⟨hu0, hu1, _⟩ := hU; go_simp; (try with_reducible rfl)
        case rest21 =>
        (try simp only [Act.put])
        refine wpAnyG_take (i := 19) (v := ?v22) (by kernel_rfl) rfl (by kernel_rfl) (by kernel_rfl) (fun _ _ _ h => by cases h.1) (Or.inl ⟨by rfl, ?hy22⟩) (HSH.out _ bU) ?rest22
        case hy22 => intro U hU; obtain ⟨hu0, hu1, _⟩ := hU; go_simp; (try with_reducible rfl)
        case rest22 =>
        (try simp only [Act.put])
        refine wpAnyG_take (i := 20) (v := ?v23) (by kernel_rfl) rfl (by kernel_rfl) (by kernel_rfl) (fun _ _ _ h => by cases h.1) (Or.inl ⟨by rfl, ?hy23⟩) (HSH.out _ bU) ?rest23
        case hy23 => intro U hU; obtain ⟨hu0, hu1, _⟩ := hU; go_simp; (try with_reducible rfl)
        case rest23 =>
        (try simp only [Act.put])
        have g0 := cells_at eU 0 _ rfl
        have gz0 := frozen_at eU 0
        have g1 := cells_at eU 1 _ rfl
        have gz1 := frozen_at eU 1
        have g2 := cells_at eU 2 _ rfl
        have gz2 := frozen_at eU 2
        have g3 := cells_at eU 3 _ rfl
        have gz3 := frozen_at eU 3
        have g4 := cells_at eU 4 _ rfl
        have gz4 := frozen_at eU 4
        refine wpAnyG_one (i := 22) (by kernel_rfl) rfl (fun Ks hKs => ?_)
        go_simp
        have hp := putN_at [.int .i64 vk, .int .i64 vi, .int .i64 vm, .string vt, .slice sa vl.length sc] 0 U _ eU rfl
        have gP := putN_far (grown_of_below (r := none) bU) hRW [.int .i64 vk, .int .i64 vi, .int .i64 vm, .string vt, .slice sa vl.length sc] 0
        have bP : Below W.heap.size W (putN U W.heap.size 0 [.int .i64 vk, .int .i64 vi, .int .i64 vm, .string vt, .slice sa vl.length sc]) := ⟨gP.os, gP.tape, gP.output, gP.size, fun k hk => gP.block k hk (by simp)⟩
        refine hKs.out _ _ (HSH.out _ bP) ?_
        (try simp only [Act.put, List.setIfInBounds_toArray])
        refine wpAnyG_one (i := 23) (by kernel_rfl) rfl (fun K23 hK23 => ?_)
        go_simp
        refine hK23.out _ _ (HSH.out _ bP) ?_
        (try simp only [Act.put, List.setIfInBounds_toArray])
        refine wpAnyG_one (i := 24) (by kernel_rfl) rfl (fun K24 hK24 => ?_)
        go_simp
        refine hK24.out _ _ (HSH.out _ bP) ?_
        (try simp only [Act.put, List.setIfInBounds_toArray])
        refine wpAnyG_end (by kernel_rfl) ?_
        have hIP : ItemsIn (putN U W.heap.size 0 [.int .i64 vk, .int .i64 vi, .int .i64 vm, .string vt, .slice sa vl.length sc]) (fun b => w.heap.size < b ∧ b ≠ W.heap.size ∧ b < (putN U W.heap.size 0 [.int .i64 vk, .int .i64 vi, .int .i64 vm, .string vt, .slice sa vl.length sc]).heap.size) n (.slice sa vl.length sc) vl := hI.kept (fun b o hb => World.cell?_of_block (putN_other hb.2.1 _ _ _)) (fun b hb => ⟨hb.1, hb.2.1, by rw [putN_size]; exact hb.2.2⟩)
        exact ⟨rfl, W.heap.size, _, rfl, by have := HZ.out; omega, hp, hIP, bP⟩
    case al =>
      go_simp
      have bA : Below W.heap.size W (W.alloc (.cells zcells 46)).drew := below_drew (alloc_v (Below.refl _ _) _)
      have eA : (W.alloc (.cells zcells 46)).drew.heap[W.heap.size]? = some (.cells zcells 46 (0, 0)) := World.alloc_heap_new W _
      generalize hAA : (W.alloc (.cells zcells 46)).drew = V at *
      refine hK.out _ _ (HSH.out _ bA) ?_
      (try simp only [Act.put, List.setIfInBounds_toArray])
      refine wpAnyG_one (i := 13) (by kernel_rfl) rfl (fun K1 hK1 => ?_)
      go_simp
      go_at_call 80
      refine (HLF.out _ (HRD.out _ bA)).mono ?_
      rintro e U ⟨rfl, rfl⟩
      refine hK1.out _ _ (HSH.out _ bA) ?_
      (try simp only [Act.put, List.setIfInBounds_toArray])
      refine wpAnyG_take (i := 14) (v := ?v24) (by kernel_rfl) rfl (by kernel_rfl) (by kernel_rfl) (fun _ _ _ h => by cases h.1) (Or.inl ⟨by rfl, ?hy24⟩) (HSH.out _ bA) ?rest24
      case hy24 => intro U hU; obtain ⟨hu0, hu1, _⟩ := hU; go_simp; (try with_reducible rfl)
      case rest24 =>
      (try simp only [Act.put, List.setIfInBounds_toArray])
      refine wpAnyG_take (i := 15) (v := ?v25) (by kernel_rfl) rfl (by kernel_rfl) (by kernel_rfl) (fun _ _ _ h => by cases h.1) (Or.inl ⟨by rfl, ?hy25⟩) (HSH.out _ bA) ?rest25
      case hy25 => intro U hU; obtain ⟨hu0, hu1, _⟩ := hU; go_simp; (try with_reducible rfl)
      case rest25 =>
      (try simp only [Act.put])
      refine wpAnyG_one (i := 16) (by kernel_rfl) rfl (fun K3 hK3 => ?_)
      go_simp
      go_at_call 79
      refine (HDEC.out _ bA).mono ?_
      rintro e U ⟨s', rfl, i3, b3⟩
      obtain ⟨sa, sc, rfl, _⟩ := i3.len
      have hVW := (Array.getElem?_eq_some_iff.1 eA).1
      have bU : Below W.heap.size W U := trans_v bA b3
      have eU := (b3.block _ hVW).trans eA
      have hI : ItemsIn U (fun b => w.heap.size < b ∧ b ≠ W.heap.size ∧ b < U.heap.size) n (.slice sa vl.length sc) vl := i3.kept (fun _ _ _ => rfl) (fun b hb => ⟨by have h1 := hb.1; have h3 := HZ.out; omega, by have h1 := hb.1; have h3 := HZ.out; omega, hb.2⟩)
      have hRW : W.heap.size ≤ W.heap.size := Nat.le_refl _
      refine hK3.out _ _ (HSH.out _ bU) ?_
      (try simp only [Act.put, List.setIfInBounds_toArray])
      refine wpAnyG_take (i := 17) (v := ?v26) (by kernel_rfl) rfl (by kernel_rfl) (by kernel_rfl) (fun _ _ _ h => by cases h.1) (Or.inl ⟨by rfl, ?hy26⟩) (HSH.out _ bU) ?rest26
      case hy26 => intro U hU; obtain ⟨hu0, hu1, _⟩ := hU; go_simp; (try with_reducible rfl)
      case rest26 =>
      (try simp only [Act.put, List.setIfInBounds_toArray])
      refine wpAnyG_take (i := 18) (v := ?v27) (by kernel_rfl) rfl (by kernel_rfl) (by kernel_rfl) (fun _ _ _ h => by cases h.1) (Or.inl ⟨by rfl, ?hy27⟩) (HSH.out _ bU) ?rest27
      case hy27 => intro U hU; obtain ⟨hu0, hu1, _⟩ := hU; go_simp; (try with_reducible rfl)
      case rest27 =>
      (try simp only [Act.put])
      refine wpAnyG_take (i := 19) (v := ?v28) (by kernel_rfl) rfl (by kernel_rfl) (by kernel_rfl) (fun _ _ _ h => by cases h.1) (Or.inl ⟨by rfl, ?hy28⟩) (HSH.out _ bU) ?rest28
      case hy28 => intro U hU; obtain ⟨hu0, hu1, _⟩ := hU; go_simp; (try with_reducible rfl)
      case rest28 =>
      (try simp only [Act.put])
      refine wpAnyG_take (i := 20) (v := ?v29) (by kernel_rfl) rfl (by kernel_rfl) (by kernel_rfl) (fun _ _ _ h => by cases h.1) (Or.inl ⟨by rfl, ?hy29⟩) (HSH.out _ bU) ?rest29
      case hy29 => intro U hU; obtain ⟨hu0, hu1, _⟩ := hU; go_simp; (try with_reducible rfl)
      case rest29 =>
      (try simp only [Act.put])
      have g0 := cells_at eU 0 _ rfl
      have gz0 := frozen_at eU 0
      have g1 := cells_at eU 1 _ rfl
      have gz1 := frozen_at eU 1
      have g2 := cells_at eU 2 _ rfl
      have gz2 := frozen_at eU 2
      have g3 := cells_at eU 3 _ rfl
      have gz3 := frozen_at eU 3
      have g4 := cells_at eU 4 _ rfl
      have gz4 := frozen_at eU 4
      refine wpAnyG_one (i := 22) (by kernel_rfl) rfl (fun Ks hKs => ?_)
      go_simp
      have hp := putN_at [.int .i64 vk, .int .i64 vi, .int .i64 vm, .string vt, .slice sa vl.length sc] 0 U _ eU rfl
      have gP := putN_far (grown_of_below (r := none) bU) hRW [.int .i64 vk, .int .i64 vi, .int .i64 vm, .string vt, .slice sa vl.length sc] 0
      have bP : Below W.heap.size W (putN U W.heap.size 0 [.int .i64 vk, .int .i64 vi, .int .i64 vm, .string vt, .slice sa vl.length sc]) := ⟨gP.os, gP.tape, gP.output, gP.size, fun k hk => gP.block k hk (by simp)⟩
      refine hKs.out _ _ (HSH.out _ bP) ?_
      (try simp only [Act.put, List.setIfInBounds_toArray])
      refine wpAnyG_one (i := 23) (by kernel_rfl) rfl (fun K23 hK23 => ?_)
      go_simp
      refine hK23.out _ _ (HSH.out _ bP) ?_
      (try simp only [Act.put, List.setIfInBounds_toArray])
      refine wpAnyG_one (i := 24) (by kernel_rfl) rfl (fun K24 hK24 => ?_)
      go_simp
      refine hK24.out _ _ (HSH.out _ bP) ?_
      (try simp only [Act.put, List.setIfInBounds_toArray])
      refine wpAnyG_end (by kernel_rfl) ?_
      have hIP : ItemsIn (putN U W.heap.size 0 [.int .i64 vk, .int .i64 vi, .int .i64 vm, .string vt, .slice sa vl.length sc]) (fun b => w.heap.size < b ∧ b ≠ W.heap.size ∧ b < (putN U W.heap.size 0 [.int .i64 vk, .int .i64 vi, .int .i64 vm, .string vt, .slice sa vl.length sc]).heap.size) n (.slice sa vl.length sc) vl := hI.kept (fun b o hb => World.cell?_of_block (putN_other hb.2.1 _ _ _)) (fun b hb => ⟨hb.1, hb.2.1, by rw [putN_size]; exact hb.2.2⟩)
      exact ⟨rfl, W.heap.size, _, rfl, by have := HZ.out; omega, hp, hIP, bP⟩
  case restZ =>
    rintro e a' U ⟨rfl, R, sl3, rfl, hR, hU, hI, bU⟩
    obtain ⟨sa, sc, rfl, _⟩ := hI.len
    have hc0 := HC0.out
    subst hc0
    have u0 := cells_at hU 0 _ rfl
    have u1 := cells_at hU 1 _ rfl
    have u2 := cells_at hU 2 _ rfl
    have u3 := cells_at hU 3 _ rfl
    have u4 := cells_at hU 4 _ rfl
    have HUU := hide (And.intro hU (And.intro hI bU))
    clear hU hI bU HSH HDEC HRD HLF hsl hsub x0 x1
    go_wp2_with (go_at_call 81; refine (sureV_6 _ _ _ _ _ _ _ _).mono ?_; rintro e U2 ⟨rfl, b2⟩; have B2 := hide b2; clear b2)
    clear u0 u1 u2 u3 u4
    have hM := HM.out
    have hdbw := hdb
    have bwU2 : Below w.heap.size w U2 := trans_v bW (trans_v HUU.out.2.2 B2.out)
    have hD2 : EDAt U2 db rb lo B (.slice a l.length ca) l r := hM.2.2.2.1.same (fun k hk => bwU2.block k (by omega))
    have hql : q ≤ r.length := HQ.out.1
    have HD2 := hide hD2
    have HBU := hide bwU2
    clear hD2 bwU2
    go_loopw [31] (fun i wr => ∃ k : Nat, k ≤ q ∧ i = .int .i64 k ∧ EDAt wr db rb lo B (.slice a l.length ca) l (r.drop k) ∧ U2.grownBy wr (some rb)) (fun i _ => q - (intOf i).toNat)
    case atStart => exact ⟨0, Nat.zero_le _, rfl, by rw [List.drop_zero]; exact HD2.out, grownBy_refl _ _⟩
    case round =>
      obtain ⟨k, hk, rfl, hE, hg⟩ := hrel
      by_cases hlt : k < q
      · have hne : k < r.length := by omega
        have hx := hE.rd
        rw [List.drop_eq_getElem_cons hne] at hx
        have HU8 := hide (rU8_some wr rb lo r[k] (r.drop (k + 1)) hx)
        have d1 := cells_at hE.blk 1 _ rfl
        have hkq : (k : Int) < (q : Int) := by omega
        have HE := hide (And.intro hE hg)
        have hpp : ∃ p', p' ≤ l.length ∧ r.drop (k + 1) = l.drop p' := ⟨p + (k + 1), by have := hM.2.1; omega, by rw [hM.2.2.1, List.drop_drop]⟩
        have HPP := hide hpp
        clear hE hg hx hpp
        generalize r[k] = x at *
        go_wp2_with (first
          | (go_at_call 62; refine HU8.out.mono ?_; clear HU8; rintro e w3 ⟨rfl, r3, g3⟩; have R3 := hide r3; have G3 := hide g3; clear r3 g3)
          | (go_at_call 61; refine (sure8_6 _ _).mono ?_; rintro e w4 ⟨rfl, rfl⟩))
        go_roundw
        case rel => exact ⟨k + 1, by omega, by go_num, HE.out.1.kept G3.out R3.out HPP.out, grown_more HE.out.2 G3.out⟩
        case measure => simp [intOf]; omega
      · have hkq : k = q := by omega
        subst hkq
        have h3' := hM.2.2.2.1.hrb
        have hRb : wr.heap[R]? = some (.cells #[.int .i64 vk, .int .i64 vi, .int .i64 vm, .string vt, .slice sa vl.length sc] 46 (0, 0)) := (hg.block R (by have := (Array.getElem?_eq_some_iff.1 HUU.out.1).1; have := B2.out.size; omega) (by simp; omega)).trans ((B2.out.block R (Array.getElem?_eq_some_iff.1 HUU.out.1).1).trans HUU.out.1)
        have hr0 : wr.heap[w.heap.size]? = some (.cells zcells 46 (0, 0)) := (hg.block _ (by have := HUU.out.2.2.size; have := B2.out.size; omega) (by simp; omega)).trans ((B2.out.block _ (by have := HUU.out.2.2.size; omega)).trans ((HUU.out.2.2.block _ (by omega)).trans hM.2.2.2.2.1))
        have y0 := cells_at hRb 0 _ rfl
        have y1 := cells_at hRb 1 _ rfl
        have y2 := cells_at hRb 2 _ rfl
        have y3 := cells_at hRb 3 _ rfl
        have y4 := cells_at hRb 4 _ rfl
        have r0 := cells_at hr0 0 _ rfl
        have rz0 := frozen_at hr0 0
        have r1 := cells_at hr0 1 _ rfl
        have rz1 := frozen_at hr0 1
        have r2 := cells_at hr0 2 _ rfl
        have rz2 := frozen_at hr0 2
        have r3 := cells_at hr0 3 _ rfl
        have rz3 := frozen_at hr0 3
        have r4 := cells_at hr0 4 _ rfl
        have rz4 := frozen_at hr0 4
        have HE := hide (And.intro hE (And.intro hg hr0))
        clear hE hg hr0 hRb
        go_wp2
        have hp := putN_at [.int .i64 vk, .int .i64 vi, .int .i64 vm, .string vt, .slice sa vl.length sc] 0 wr _ HE.out.2.2 rfl
        have gw : w.grownBy wr (some rb) := grown_more (grown_of_below HBU.out) HE.out.2.1
        have gP := putN_far gw (Nat.le_refl _) [.int .i64 vk, .int .i64 vi, .int .i64 vm, .string vt, .slice sa vl.length sc] 0
        refine bodyPost_ret (results_cell_row rfl _ _ w.heap.size _ _ _ _ rfl hp Tryz.underlying46 rfl infoVal5) rfl ?_
        have hsU := HUU.out.2.2.size
        have hs2 := B2.out.size
        have hs3 := HE.out.2.1.size
        have hrb1 := hM.2.2.2.1.hrb
        have hzY : (putN wr w.heap.size 0 [.int .i64 vk, .int .i64 vi, .int .i64 vm, .string vt, .slice sa vl.length sc]).heap.size = wr.heap.size := putN_size _ _ _
        have hIY : ItemsIn (putN wr w.heap.size 0 [.int .i64 vk, .int .i64 vi, .int .i64 vm, .string vt, .slice sa vl.length sc]) (fun b => w.heap.size ≤ b ∧ b < (putN wr w.heap.size 0 [.int .i64 vk, .int .i64 vi, .int .i64 vm, .string vt, .slice sa vl.length sc]).heap.size) n (.slice sa vl.length sc) vl := by
          refine HUU.out.2.1.kept (fun b o hb => ?_) (fun b hb => ?_)
          · obtain ⟨hb1, hb2, hb3⟩ := hb
            have q1 : (putN wr w.heap.size 0 [.int .i64 vk, .int .i64 vi, .int .i64 vm, .string vt, .slice sa vl.length sc]).heap[b]? = wr.heap[b]? := putN_other (by omega) _ _ _
            have q2 : wr.heap[b]? = U2.heap[b]? := HE.out.2.1.block b (by omega) (by simp; omega)
            exact World.cell?_of_block (q1.trans (q2.trans (B2.out.block b hb3)))
          · obtain ⟨hb1, hb2, hb3⟩ := hb
            exact ⟨by omega, by rw [hzY]; omega⟩
        have hEY : EDAt (putN wr w.heap.size 0 [.int .i64 vk, .int .i64 vi, .int .i64 vm, .string vt, .slice sa vl.length sc]) db rb lo B (.slice a l.length ca) l (r.drop k) := by
          refine HE.out.1.same (fun j hj => ?_)
          exact putN_other (by omega) _ _ _
        exact ⟨_, rfl, hIY, hEY, gP⟩

set_option maxRecDepth 100000 in
set_option maxHeartbeats 2000000 in
theorem dval_no (w : World) (db rb lo B : Nat) (sl : Value) (l r : List UInt8) (n : Nat) (hD : EDAt w db rb lo B sl l r) (hT : Tabs w) (hl : l.length ≤ 1000000000000) (hn : n = 4097) (hd : decVal6 r = none) :
    Calls Tryz.prog 65 #[.pointer (some ⟨db, 0, none⟩)] w fun e w' => e = gaveUp6 ∧ w.grownBy w' (some rb) := by
  obtain ⟨a, ca, rfl, hlc, hcm, _⟩ := id hD.bytes
  obtain ⟨p, hp0, hrp⟩ := hD.at'
  have hdb : db < w.heap.size := (Array.getElem?_eq_some_iff.1 hD.blk).1
  have hrl : r.length = l.length - p := by rw [hrp, List.length_drop]
  obtain ⟨a1, c1, hsl, hb1⟩ := slice_low w .i64 a ca hD.bytes p hp0
  rw [← hrp, ← hrl] at hb1
  rw [← hrl] at hsl
  obtain ⟨m, hm⟩ : ∃ m, r.length = m := ⟨_, rfl⟩
  have hsub : IntKind.i64.wrap ((l.length : Int) - (m : Int)) = (p : Int) := by rw [IntKind.wrap_i64]; omega
  obtain ⟨W, hW⟩ : ∃ W, w.alloc (.cells zcells 46) = W := ⟨_, rfl⟩
  have bW : Below w.heap.size w W := by rw [← hW]; exact alloc_v (Below.refl _ _) _
  have zW : W.heap.size = w.heap.size + 1 := by rw [← hW]; simp
  have e1 : W.heap[w.heap.size]? = some (.cells zcells 46 (0, 0)) := by rw [← hW]; exact World.alloc_heap_new w _
  have f1 : W.heap[db]? = some (.cells #[.slice a l.length ca, .pointer (some ⟨rb, 0, none⟩)] 85 (0, 0)) := (bW.block _ hdb).trans hD.blk
  have x0 := cells_at f1 0 _ rfl
  have x1 := cells_at f1 1 _ rfl
  have h1 := hD.hB
  have h2 := hD.hlo
  have h3 := hD.hrb
  have HLF := hide (fun U (h : Rd U rb lo r) => rLeft U rb lo r h)
  rw [hm] at hb1 hsl HLF
  have HRD := hide (fun (U : World) (b : Below W.heap.size W U) => hD.rd.kept (w' := U) (fun k _ hk => (b.block k (by omega)).trans (bW.block k (by omega))) hD.hlo)
  have HSH := hide (fun (U : World) (b : Below W.heap.size W U) => (show U.cell? ⟨db, 0, none⟩ = some (.slice a l.length ca) ∧ U.cell? ⟨db, 1, none⟩ = some (.pointer (some ⟨rb, 0, none⟩)) ∧ Below W.heap.size W U from ⟨(b.cell (p := ⟨db, 0, none⟩) (World.block_lt_of_cell? _ _ x0)).trans x0, (b.cell (p := ⟨db, 1, none⟩) (World.block_lt_of_cell? _ _ x1)).trans x1, b⟩))
  have HBY := hide (fun (U : World) (b : Below W.heap.size W U) => hb1.mono (w' := U) (fun b' o _ hb => (b.cell (p := ⟨b', o, none⟩) (by show b' < _; omega)).trans (bW.cell (p := ⟨b', o, none⟩) (by show b' < _; omega))) (Nat.le_refl 0) (show B ≤ U.heap.size by have := b.size; omega))
  have HDC := hide (fun (U : World) (b : Below W.heap.size W U) => dec_no U (.slice a1 m c1) r ((hT.below bW).below b) (HBY.out U b) (by omega) hd)
  obtain ⟨⟨vk, vi, vm, vt, vl⟩, hz⟩ : ∃ z : Vl, z = ⟨0, 0, 0, ⟨#[]⟩, []⟩ := ⟨_, rfl⟩
  obtain ⟨c, hc⟩ : ∃ c : Int, c = 41 := ⟨41, rfl⟩
  obtain ⟨q, hq⟩ : ∃ q : Nat, q = 0 := ⟨0, rfl⟩
  have HDEC : Hid (∀ (U : World) (b : Below W.heap.size W U), Calls Tryz.prog 79 #[.slice a1 m c1] U fun e w' => ∃ s', e = .returned (.tuple #[.agg (vcells ⟨vk, vi, vm, vt, vl⟩ s'), .int .i64 q, .int .i64 c]) ∧ ItemsIn w' (fun b => U.heap.size ≤ b ∧ b < w'.heap.size) n s' vl ∧ Below U.heap.size U w') := by
    intro U b
    refine (HDC.out U b).mono ?_
    rintro e w' ⟨rfl, b1⟩
    cases hz
    subst hc hq hn
    exact ⟨_, rfl, nil_in _ _ _, b1⟩
  have HC0 := hide hc
  clear hd hc hq hz HDC
  have HM := hide (And.intro hm (And.intro hrl (And.intro hrp (And.intro hD (And.intro e1 hp0)))))
  clear f1 hm hrl hrp hD hb1 hT e1 hlc HBY
  go_enter Tryz.func65, Tryz.ntmps65
  go_wp2
  clear hW
  refine Code.wp_mono (Q := fun e a' U => e = .normal ∧ ∃ (R : Nat) (sl3 : Value), a' = ⟨#[.pointer (some ⟨db, 0, none⟩), undef, .pointer (some ⟨w.heap.size, 0, none⟩), .pointer (some ⟨R, 0, none⟩), .int .i64 q, .int .i64 c, .tuple #[.agg #[.int .i64 vk, .int .i64 vi, .int .i64 vm, .string vt, sl3], .int .i64 q, .int .i64 c], .pointer (some ⟨db, 0, none⟩), .pointer (some ⟨db, 0, none⟩), .pointer (some ⟨db, 0, none⟩), .slice a l.length ca, .pointer (some ⟨db, 0, none⟩), .pointer (some ⟨db, 0, none⟩), .pointer (some ⟨db, 0, none⟩), .slice a l.length ca, .int .i64 l.length, .pointer (some ⟨db, 0, none⟩), .pointer (some ⟨db, 0, none⟩), .pointer (some ⟨db, 1, none⟩), .pointer (some ⟨rb, 0, none⟩), .int .i64 m, .int .i64 p, .slice a1 m c1, .tuple #[.agg #[.int .i64 vk, .int .i64 vi, .int .i64 vm, .string vt, sl3], .int .i64 q, .int .i64 c], .agg #[.int .i64 vk, .int .i64 vi, .int .i64 vm, .string vt, sl3], .int .i64 q, .int .i64 c, undef, undef, undef, undef, undef, undef, undef, undef, undef, undef, undef, undef, undef, undef, undef, undef], []⟩ ∧ w.heap.size < R ∧ U.heap[R]? = some (.cells #[.int .i64 vk, .int .i64 vi, .int .i64 vm, .string vt, sl3] 46 (0, 0)) ∧ ItemsIn U (fun b => w.heap.size < b ∧ b ≠ R ∧ b < U.heap.size) n sl3 vl ∧ Below W.heap.size W U) ?restZ
    (wp_region_G 25 (fun U => U.cell? ⟨db, 0, none⟩ = some (.slice a l.length ca) ∧ U.cell? ⟨db, 1, none⟩ = some (.pointer (some ⟨rb, 0, none⟩)) ∧ Below W.heap.size W U) (by kernel_rfl) (by kernel_rfl) ?regZ)
  case regZ =>
    have HZ := hide zW
    clear x0 x1 zW
    refine wpAnyG_take (i := 0) (v := ?v30) (by kernel_rfl) rfl (by kernel_rfl) (by kernel_rfl) (fun _ _ _ h => by cases h.1) (Or.inl ⟨by rfl, ?hy30⟩) (HSH.out _ (below_drew (Below.refl _ _))) ?rest30
    case hy30 => intro U hU; obtain ⟨hu0, hu1, _⟩ := hU; go_simp; (try with_reducible rfl)
    case rest30 =>
    (try simp only [Act.put, List.setIfInBounds_toArray])
    refine wpAnyG_take (i := 1) (v := ?v31) (by kernel_rfl) rfl (by kernel_rfl) (by kernel_rfl) (fun _ _ _ h => by cases h.1) (Or.inl ⟨by rfl, ?hy31⟩) (HSH.out _ (below_drew (Below.refl _ _))) ?rest31
    case hy31 => intro U hU; obtain ⟨hu0, hu1, _⟩ := hU; go_simp; (try with_reducible rfl)
    case rest31 =>
    (try simp only [Act.put])
    refine wpAnyG_take (i := 2) (v := ?v32) (by kernel_rfl) rfl (by kernel_rfl) (by kernel_rfl) (fun _ _ _ h => by cases h.1) (Or.inl ⟨by rfl, ?hy32⟩) (HSH.out _ (below_drew (Below.refl _ _))) ?rest32
    case hy32 => intro U hU; obtain ⟨hu0, hu1, _⟩ := hU; go_simp; (try with_reducible rfl)
    case rest32 =>
    (try simp only [Act.put])
    refine wpAnyG_take (i := 3) (v := ?v33) (by kernel_rfl) rfl (by kernel_rfl) (by kernel_rfl) (fun _ _ _ h => by cases h.1) (Or.inl ⟨by rfl, ?hy33⟩) (HSH.out _ (below_drew (Below.refl _ _))) ?rest33
    case hy33 => intro U hU; obtain ⟨hu0, hu1, _⟩ := hU; go_simp; (try with_reducible rfl)
    case rest33 =>
    (try simp only [Act.put])
    refine wpAnyG_take (i := 4) (v := ?v34) (by kernel_rfl) rfl (by kernel_rfl) (by kernel_rfl) (fun _ _ _ h => by cases h.1) (Or.inl ⟨by rfl, ?hy34⟩) (HSH.out _ (below_drew (Below.refl _ _))) ?rest34
    case hy34 => intro U hU; obtain ⟨hu0, hu1, _⟩ := hU; go_simp; (try with_reducible rfl)
    case rest34 =>
    (try simp only [Act.put])
    refine wpAnyG_take (i := 5) (v := ?v35) (by kernel_rfl) rfl (by kernel_rfl) (by kernel_rfl) (fun _ _ _ h => by cases h.1) (Or.inl ⟨by rfl, ?hy35⟩) (HSH.out _ (below_drew (Below.refl _ _))) ?rest35
    case hy35 => intro U hU; obtain ⟨hu0, hu1, _⟩ := hU; go_simp; (try with_reducible rfl)
    case rest35 =>
    (try simp only [Act.put])
    refine wpAnyG_take (i := 6) (v := ?v36) (by kernel_rfl) rfl (by kernel_rfl) (by kernel_rfl) (fun _ _ _ h => by cases h.1) (Or.inl ⟨by rfl, ?hy36⟩) (HSH.out _ (below_drew (Below.refl _ _))) ?rest36
    case hy36 => intro U hU; obtain ⟨hu0, hu1, _⟩ := hU; go_simp; (try with_reducible rfl)
    case rest36 =>
    (try simp only [Act.put])
    refine wpAnyG_take (i := 7) (v := ?v37) (by kernel_rfl) rfl (by kernel_rfl) (by kernel_rfl) (fun _ _ _ h => by cases h.1) (Or.inl ⟨by rfl, ?hy37⟩) (HSH.out _ (below_drew (Below.refl _ _))) ?rest37
    case hy37 => intro U hU; obtain ⟨hu0, hu1, _⟩ := hU; go_simp; (try with_reducible rfl)
    case rest37 =>
    (try simp only [Act.put])
    refine wpAnyG_take (i := 8) (v := ?v38) (by kernel_rfl) rfl (by kernel_rfl) (by kernel_rfl) (fun _ _ _ h => by cases h.1) (Or.inl ⟨by rfl, ?hy38⟩) (HSH.out _ (below_drew (Below.refl _ _))) ?rest38
    case hy38 => intro U hU; obtain ⟨hu0, hu1, _⟩ := hU; go_simp; (try with_reducible rfl)
    case rest38 =>
    (try simp only [Act.put])
    refine wpAnyG_take (i := 9) (v := ?v39) (by kernel_rfl) rfl (by kernel_rfl) (by kernel_rfl) (fun _ _ _ h => by cases h.1) (Or.inl ⟨by rfl, ?hy39⟩) (HSH.out _ (below_drew (Below.refl _ _))) ?rest39
    case hy39 => intro U hU; obtain ⟨hu0, hu1, _⟩ := hU; go_simp; (try with_reducible rfl)
    case rest39 =>
    (try simp only [Act.put])
    refine wpAnyG_take (i := 10) (v := ?v40) (by kernel_rfl) rfl (by kernel_rfl) (by kernel_rfl) (fun _ _ _ h => by cases h.1) (Or.inl ⟨by rfl, ?hy40⟩) (HSH.out _ (below_drew (Below.refl _ _))) ?rest40
    case hy40 => intro U hU; obtain ⟨hu0, hu1, _⟩ := hU; go_simp; (try with_reducible rfl)
    case rest40 =>
    (try simp only [Act.put])
    refine wpAnyG_take (i := 11) (v := ?v41) (by kernel_rfl) rfl (by kernel_rfl) (by kernel_rfl) (fun _ _ _ h => by cases h.1) (Or.inl ⟨by rfl, ?hy41⟩) (HSH.out _ (below_drew (Below.refl _ _))) ?rest41
    case hy41 => intro U hU; obtain ⟨hu0, hu1, _⟩ := hU; go_simp; (try with_reducible rfl)
    case rest41 =>
    (try simp only [Act.put])
    refine wpAnyG_take (i := 12) (v := ?v42) (by kernel_rfl) rfl (by kernel_rfl) (by kernel_rfl) (fun _ _ _ h => by cases h.1) (Or.inl ⟨by rfl, ?hy42⟩) (HSH.out _ (below_drew (Below.refl _ _))) ?rest42
    case hy42 => intro U hU; obtain ⟨hu0, hu1, _⟩ := hU; go_simp; (try with_reducible rfl)
    case rest42 =>
    (try simp only [Act.put])
    refine wpAnyG_two (i := 13) (j := 21) (by kernel_rfl) rfl rfl (fun K hK => ?ca) (fun K hK => ?al)
    case ca =>
      go_simp
      go_at_call 80
      refine (HLF.out _ (HRD.out _ (below_drew (Below.refl _ _)))).mono ?_
      rintro e U ⟨rfl, rfl⟩
      refine hK.out _ _ (HSH.out _ (below_drew (Below.refl _ _))) ?_
      (try simp only [Act.put, List.setIfInBounds_toArray])
      refine wpAnyG_take (i := 14) (v := ?v43) (by kernel_rfl) rfl (by kernel_rfl) (by kernel_rfl) (fun _ _ _ h => by cases h.1) (Or.inl ⟨by rfl, ?hy43⟩) (HSH.out _ (below_drew (Below.refl _ _))) ?rest43
      case hy43 => intro U hU; obtain ⟨hu0, hu1, _⟩ := hU; go_simp; (try with_reducible rfl)
      case rest43 =>
      (try simp only [Act.put, List.setIfInBounds_toArray])
      refine wpAnyG_take (i := 15) (v := ?v44) (by kernel_rfl) rfl (by kernel_rfl) (by kernel_rfl) (fun _ _ _ h => by cases h.1) (Or.inl ⟨by rfl, ?hy44⟩) (HSH.out _ (below_drew (Below.refl _ _))) ?rest44
      case hy44 => intro U hU; obtain ⟨hu0, hu1, _⟩ := hU; go_simp; (try with_reducible rfl)
      case rest44 =>
      (try simp only [Act.put])
      refine wpAnyG_two (i := 16) (j := 21) (by kernel_rfl) rfl rfl (fun K1 hK1 => ?cb) (fun K1 hK1 => ?am)
      case cb =>
        go_simp
        go_at_call 79
        refine (HDEC.out _ (below_drew (Below.refl _ _))).mono ?_
        rintro e U ⟨s', rfl, i3, b3⟩
        obtain ⟨sa, sc, rfl, _⟩ := i3.len
        have bU : Below W.heap.size W U := trans_v (below_drew (Below.refl _ _)) b3
        refine hK1.out _ _ (HSH.out _ bU) ?_
        (try simp only [Act.put, List.setIfInBounds_toArray])
        refine wpAnyG_take (i := 17) (v := ?v45) (by kernel_rfl) rfl (by kernel_rfl) (by kernel_rfl) (fun _ _ _ h => by cases h.1) (Or.inl ⟨by rfl, ?hy45⟩) (HSH.out _ bU) ?rest45
        case hy45 => intro U hU; obtain ⟨hu0, hu1, _⟩ := hU; go_simp; (try with_reducible rfl)
        case rest45 =>
        (try simp only [Act.put, List.setIfInBounds_toArray])
        refine wpAnyG_take (i := 18) (v := ?v46) (by kernel_rfl) rfl (by kernel_rfl) (by kernel_rfl) (fun _ _ _ h => by cases h.1) (Or.inl ⟨by rfl, ?hy46⟩) (HSH.out _ bU) ?rest46
        case hy46 => intro U hU; obtain ⟨hu0, hu1, _⟩ := hU; go_simp; (try with_reducible rfl)
        case rest46 =>
        (try simp only [Act.put])
        refine wpAnyG_take (i := 19) (v := ?v47) (by kernel_rfl) rfl (by kernel_rfl) (by kernel_rfl) (fun _ _ _ h => by cases h.1) (Or.inl ⟨by rfl, ?hy47⟩) (HSH.out _ bU) ?rest47
        case hy47 => intro U hU; obtain ⟨hu0, hu1, _⟩ := hU; go_simp; (try with_reducible rfl)
        case rest47 =>
        (try simp only [Act.put])
        refine wpAnyG_take (i := 20) (v := ?v48) (by kernel_rfl) rfl (by kernel_rfl) (by kernel_rfl) (fun _ _ _ h => by cases h.1) (Or.inl ⟨by rfl, ?hy48⟩) (HSH.out _ bU) ?rest48
        case hy48 => intro U hU; obtain ⟨hu0, hu1, _⟩ := hU; go_simp; (try with_reducible rfl)
        case rest48 =>
        (try simp only [Act.put])
        refine wpAnyG_one (i := 21) (by kernel_rfl) rfl (fun K2 hK2 => ?_)
        go_simp
        have bA : Below W.heap.size W (U.alloc (.cells zcells 46)) := alloc_v bU _
        have eA : (U.alloc (.cells zcells 46)).heap[U.heap.size]? = some (.cells zcells 46 (0, 0)) := World.alloc_heap_new U _
        have hRW := bU.size
        have hI : ItemsIn U (fun b => w.heap.size < b ∧ b ≠ U.heap.size ∧ b < U.heap.size) n (.slice sa vl.length sc) vl := i3.kept (fun _ _ _ => rfl) (fun b hb => ⟨by have h1 := hb.1; have h2 : W.drew.heap.size = W.heap.size := rfl; have h3 := HZ.out; omega, by have := hb.2; omega, hb.2⟩)
        have hIA := hI.kept (w' := U.alloc (.cells zcells 46)) (S' := fun b => w.heap.size < b ∧ b ≠ U.heap.size ∧ b < (U.alloc (.cells zcells 46)).heap.size) (fun b o hb => (World.cell?_of_block (Below.heap_alloc _ _ _ hb.2.2))) (fun b hb => ⟨hb.1, hb.2.1, by have := hb.2.2; simp; omega⟩)
        generalize hAA : U.alloc (.cells zcells 46) = V at *
        refine hK2.out _ _ (HSH.out _ bA) ?_
        (try simp only [Act.put, List.setIfInBounds_toArray])
        have g0 := cells_at eA 0 _ rfl
        have gz0 := frozen_at eA 0
        have g1 := cells_at eA 1 _ rfl
        have gz1 := frozen_at eA 1
        have g2 := cells_at eA 2 _ rfl
        have gz2 := frozen_at eA 2
        have g3 := cells_at eA 3 _ rfl
        have gz3 := frozen_at eA 3
        have g4 := cells_at eA 4 _ rfl
        have gz4 := frozen_at eA 4
        refine wpAnyG_one (i := 22) (by kernel_rfl) rfl (fun Ks hKs => ?_)
        go_simp
        have hp := putN_at [.int .i64 vk, .int .i64 vi, .int .i64 vm, .string vt, .slice sa vl.length sc] 0 V _ eA rfl
        have gP := putN_far (grown_of_below (r := none) bA) hRW [.int .i64 vk, .int .i64 vi, .int .i64 vm, .string vt, .slice sa vl.length sc] 0
        have bP : Below W.heap.size W (putN V U.heap.size 0 [.int .i64 vk, .int .i64 vi, .int .i64 vm, .string vt, .slice sa vl.length sc]) := ⟨gP.os, gP.tape, gP.output, gP.size, fun k hk => gP.block k hk (by simp)⟩
        refine hKs.out _ _ (HSH.out _ bP) ?_
        (try simp only [Act.put, List.setIfInBounds_toArray])
        refine wpAnyG_one (i := 23) (by kernel_rfl) rfl (fun K23 hK23 => ?_)
        go_simp
        refine hK23.out _ _ (HSH.out _ bP) ?_
        (try simp only [Act.put, List.setIfInBounds_toArray])
        refine wpAnyG_one (i := 24) (by kernel_rfl) rfl (fun K24 hK24 => ?_)
        go_simp
        refine hK24.out _ _ (HSH.out _ bP) ?_
        (try simp only [Act.put, List.setIfInBounds_toArray])
        refine wpAnyG_end (by kernel_rfl) ?_
        have hIP : ItemsIn (putN V U.heap.size 0 [.int .i64 vk, .int .i64 vi, .int .i64 vm, .string vt, .slice sa vl.length sc]) (fun b => w.heap.size < b ∧ b ≠ U.heap.size ∧ b < (putN V U.heap.size 0 [.int .i64 vk, .int .i64 vi, .int .i64 vm, .string vt, .slice sa vl.length sc]).heap.size) n (.slice sa vl.length sc) vl := hIA.kept (fun b o hb => World.cell?_of_block (putN_other hb.2.1 _ _ _)) (fun b hb => ⟨hb.1, hb.2.1, by rw [putN_size]; exact hb.2.2⟩)
        exact ⟨rfl, U.heap.size, _, rfl, by have := HZ.out; omega, hp, hIP, bP⟩
      case am =>
        go_simp
        have bA : Below W.heap.size W (W.alloc (.cells zcells 46)).drew := below_drew (alloc_v (Below.refl _ _) _)
        have eA : (W.alloc (.cells zcells 46)).drew.heap[W.heap.size]? = some (.cells zcells 46 (0, 0)) := World.alloc_heap_new W _
        generalize hAA : (W.alloc (.cells zcells 46)).drew = V at *
        refine hK1.out _ _ (HSH.out _ bA) ?_
        (try simp only [Act.put, List.setIfInBounds_toArray])
        refine wpAnyG_one (i := 16) (by kernel_rfl) rfl (fun K3 hK3 => ?_)
        go_simp
        go_at_call 79
        refine (HDEC.out _ bA).mono ?_
        rintro e U ⟨s', rfl, i3, b3⟩
        obtain ⟨sa, sc, rfl, _⟩ := i3.len
        have hVW := (Array.getElem?_eq_some_iff.1 eA).1
        have bU : Below W.heap.size W U := trans_v bA b3
        have eU := (b3.block _ hVW).trans eA
        have hI : ItemsIn U (fun b => w.heap.size < b ∧ b ≠ W.heap.size ∧ b < U.heap.size) n (.slice sa vl.length sc) vl := i3.kept (fun _ _ _ => rfl) (fun b hb => ⟨by have h1 := hb.1; have h3 := HZ.out; omega, by have h1 := hb.1; have h3 := HZ.out; omega, hb.2⟩)
        have hRW : W.heap.size ≤ W.heap.size := Nat.le_refl _
        refine hK3.out _ _ (HSH.out _ bU) ?_
        (try simp only [Act.put, List.setIfInBounds_toArray])
        refine wpAnyG_take (i := 17) (v := ?v49) (by kernel_rfl) rfl (by kernel_rfl) (by kernel_rfl) (fun _ _ _ h => by cases h.1) (Or.inl ⟨by rfl, ?hy49⟩) (HSH.out _ bU) ?rest49
        case hy49 => intro U hU; obtain ⟨hu0, hu1, _⟩ := hU; go_simp; (try with_reducible rfl)
        case rest49 =>
        (try simp only [Act.put, List.setIfInBounds_toArray])
        refine wpAnyG_take (i := 18) (v := ?v50) (by kernel_rfl) rfl (by kernel_rfl) (by kernel_rfl) (fun _ _ _ h => by cases h.1) (Or.inl ⟨by rfl, ?hy50⟩) (HSH.out _ bU) ?rest50
        case hy50 => intro U hU; obtain ⟨hu0, hu1, _⟩ := hU; go_simp; (try with_reducible rfl)
        case rest50 =>
        (try simp only [Act.put])
        refine wpAnyG_take (i := 19) (v := ?v51) (by kernel_rfl) rfl (by kernel_rfl) (by kernel_rfl) (fun _ _ _ h => by cases h.1) (Or.inl ⟨by rfl, ?hy51⟩) (HSH.out _ bU) ?rest51
        case hy51 => intro U hU; obtain ⟨hu0, hu1, _⟩ := hU; go_simp; (try with_reducible rfl)
        case rest51 =>
        (try simp only [Act.put])
        refine wpAnyG_take (i := 20) (v := ?v52) (by kernel_rfl) rfl (by kernel_rfl) (by kernel_rfl) (fun _ _ _ h => by cases h.1) (Or.inl ⟨by rfl, ?hy52⟩) (HSH.out _ bU) ?rest52
        case hy52 => intro U hU; obtain ⟨hu0, hu1, _⟩ := hU; go_simp; (try with_reducible rfl)
        case rest52 =>
        (try simp only [Act.put])
        have g0 := cells_at eU 0 _ rfl
        have gz0 := frozen_at eU 0
        have g1 := cells_at eU 1 _ rfl
        have gz1 := frozen_at eU 1
        have g2 := cells_at eU 2 _ rfl
        have gz2 := frozen_at eU 2
        have g3 := cells_at eU 3 _ rfl
        have gz3 := frozen_at eU 3
        have g4 := cells_at eU 4 _ rfl
        have gz4 := frozen_at eU 4
        refine wpAnyG_one (i := 22) (by kernel_rfl) rfl (fun Ks hKs => ?_)
        go_simp
        have hp := putN_at [.int .i64 vk, .int .i64 vi, .int .i64 vm, .string vt, .slice sa vl.length sc] 0 U _ eU rfl
        have gP := putN_far (grown_of_below (r := none) bU) hRW [.int .i64 vk, .int .i64 vi, .int .i64 vm, .string vt, .slice sa vl.length sc] 0
        have bP : Below W.heap.size W (putN U W.heap.size 0 [.int .i64 vk, .int .i64 vi, .int .i64 vm, .string vt, .slice sa vl.length sc]) := ⟨gP.os, gP.tape, gP.output, gP.size, fun k hk => gP.block k hk (by simp)⟩
        refine hKs.out _ _ (HSH.out _ bP) ?_
        (try simp only [Act.put, List.setIfInBounds_toArray])
        refine wpAnyG_one (i := 23) (by kernel_rfl) rfl (fun K23 hK23 => ?_)
        go_simp
        refine hK23.out _ _ (HSH.out _ bP) ?_
        (try simp only [Act.put, List.setIfInBounds_toArray])
        refine wpAnyG_one (i := 24) (by kernel_rfl) rfl (fun K24 hK24 => ?_)
        go_simp
        refine hK24.out _ _ (HSH.out _ bP) ?_
        (try simp only [Act.put, List.setIfInBounds_toArray])
        refine wpAnyG_end (by kernel_rfl) ?_
        have hIP : ItemsIn (putN U W.heap.size 0 [.int .i64 vk, .int .i64 vi, .int .i64 vm, .string vt, .slice sa vl.length sc]) (fun b => w.heap.size < b ∧ b ≠ W.heap.size ∧ b < (putN U W.heap.size 0 [.int .i64 vk, .int .i64 vi, .int .i64 vm, .string vt, .slice sa vl.length sc]).heap.size) n (.slice sa vl.length sc) vl := hI.kept (fun b o hb => World.cell?_of_block (putN_other hb.2.1 _ _ _)) (fun b hb => ⟨hb.1, hb.2.1, by rw [putN_size]; exact hb.2.2⟩)
        exact ⟨rfl, W.heap.size, _, rfl, by have := HZ.out; omega, hp, hIP, bP⟩
    case al =>
      go_simp
      have bA : Below W.heap.size W (W.alloc (.cells zcells 46)).drew := below_drew (alloc_v (Below.refl _ _) _)
      have eA : (W.alloc (.cells zcells 46)).drew.heap[W.heap.size]? = some (.cells zcells 46 (0, 0)) := World.alloc_heap_new W _
      generalize hAA : (W.alloc (.cells zcells 46)).drew = V at *
      refine hK.out _ _ (HSH.out _ bA) ?_
      (try simp only [Act.put, List.setIfInBounds_toArray])
      refine wpAnyG_one (i := 13) (by kernel_rfl) rfl (fun K1 hK1 => ?_)
      go_simp
      go_at_call 80
      refine (HLF.out _ (HRD.out _ bA)).mono ?_
      rintro e U ⟨rfl, rfl⟩
      refine hK1.out _ _ (HSH.out _ bA) ?_
      (try simp only [Act.put, List.setIfInBounds_toArray])
      refine wpAnyG_take (i := 14) (v := ?v53) (by kernel_rfl) rfl (by kernel_rfl) (by kernel_rfl) (fun _ _ _ h => by cases h.1) (Or.inl ⟨by rfl, ?hy53⟩) (HSH.out _ bA) ?rest53
      case hy53 => intro U hU; obtain ⟨hu0, hu1, _⟩ := hU; go_simp; (try with_reducible rfl)
      case rest53 =>
      (try simp only [Act.put, List.setIfInBounds_toArray])
      refine wpAnyG_take (i := 15) (v := ?v54) (by kernel_rfl) rfl (by kernel_rfl) (by kernel_rfl) (fun _ _ _ h => by cases h.1) (Or.inl ⟨by rfl, ?hy54⟩) (HSH.out _ bA) ?rest54
      case hy54 => intro U hU; obtain ⟨hu0, hu1, _⟩ := hU; go_simp; (try with_reducible rfl)
      case rest54 =>
      (try simp only [Act.put])
      refine wpAnyG_one (i := 16) (by kernel_rfl) rfl (fun K3 hK3 => ?_)
      go_simp
      go_at_call 79
      refine (HDEC.out _ bA).mono ?_
      rintro e U ⟨s', rfl, i3, b3⟩
      obtain ⟨sa, sc, rfl, _⟩ := i3.len
      have hVW := (Array.getElem?_eq_some_iff.1 eA).1
      have bU : Below W.heap.size W U := trans_v bA b3
      have eU := (b3.block _ hVW).trans eA
      have hI : ItemsIn U (fun b => w.heap.size < b ∧ b ≠ W.heap.size ∧ b < U.heap.size) n (.slice sa vl.length sc) vl := i3.kept (fun _ _ _ => rfl) (fun b hb => ⟨by have h1 := hb.1; have h3 := HZ.out; omega, by have h1 := hb.1; have h3 := HZ.out; omega, hb.2⟩)
      have hRW : W.heap.size ≤ W.heap.size := Nat.le_refl _
      refine hK3.out _ _ (HSH.out _ bU) ?_
      (try simp only [Act.put, List.setIfInBounds_toArray])
      refine wpAnyG_take (i := 17) (v := ?v55) (by kernel_rfl) rfl (by kernel_rfl) (by kernel_rfl) (fun _ _ _ h => by cases h.1) (Or.inl ⟨by rfl, ?hy55⟩) (HSH.out _ bU) ?rest55
      case hy55 => intro U hU; obtain ⟨hu0, hu1, _⟩ := hU; go_simp; (try with_reducible rfl)
      case rest55 =>
      (try simp only [Act.put, List.setIfInBounds_toArray])
      refine wpAnyG_take (i := 18) (v := ?v56) (by kernel_rfl) rfl (by kernel_rfl) (by kernel_rfl) (fun _ _ _ h => by cases h.1) (Or.inl ⟨by rfl, ?hy56⟩) (HSH.out _ bU) ?rest56
      case hy56 => intro U hU; obtain ⟨hu0, hu1, _⟩ := hU; go_simp; (try with_reducible rfl)
      case rest56 =>
      (try simp only [Act.put])
      refine wpAnyG_take (i := 19) (v := ?v57) (by kernel_rfl) rfl (by kernel_rfl) (by kernel_rfl) (fun _ _ _ h => by cases h.1) (Or.inl ⟨by rfl, ?hy57⟩) (HSH.out _ bU) ?rest57
      case hy57 => intro U hU; obtain ⟨hu0, hu1, _⟩ := hU; go_simp; (try with_reducible rfl)
      case rest57 =>
      (try simp only [Act.put])
      refine wpAnyG_take (i := 20) (v := ?v58) (by kernel_rfl) rfl (by kernel_rfl) (by kernel_rfl) (fun _ _ _ h => by cases h.1) (Or.inl ⟨by rfl, ?hy58⟩) (HSH.out _ bU) ?rest58
      case hy58 => intro U hU; obtain ⟨hu0, hu1, _⟩ := hU; go_simp; (try with_reducible rfl)
      case rest58 =>
      (try simp only [Act.put])
      have g0 := cells_at eU 0 _ rfl
      have gz0 := frozen_at eU 0
      have g1 := cells_at eU 1 _ rfl
      have gz1 := frozen_at eU 1
      have g2 := cells_at eU 2 _ rfl
      have gz2 := frozen_at eU 2
      have g3 := cells_at eU 3 _ rfl
      have gz3 := frozen_at eU 3
      have g4 := cells_at eU 4 _ rfl
      have gz4 := frozen_at eU 4
      refine wpAnyG_one (i := 22) (by kernel_rfl) rfl (fun Ks hKs => ?_)
      go_simp
      have hp := putN_at [.int .i64 vk, .int .i64 vi, .int .i64 vm, .string vt, .slice sa vl.length sc] 0 U _ eU rfl
      have gP := putN_far (grown_of_below (r := none) bU) hRW [.int .i64 vk, .int .i64 vi, .int .i64 vm, .string vt, .slice sa vl.length sc] 0
      have bP : Below W.heap.size W (putN U W.heap.size 0 [.int .i64 vk, .int .i64 vi, .int .i64 vm, .string vt, .slice sa vl.length sc]) := ⟨gP.os, gP.tape, gP.output, gP.size, fun k hk => gP.block k hk (by simp)⟩
      refine hKs.out _ _ (HSH.out _ bP) ?_
      (try simp only [Act.put, List.setIfInBounds_toArray])
      refine wpAnyG_one (i := 23) (by kernel_rfl) rfl (fun K23 hK23 => ?_)
      go_simp
      refine hK23.out _ _ (HSH.out _ bP) ?_
      (try simp only [Act.put, List.setIfInBounds_toArray])
      refine wpAnyG_one (i := 24) (by kernel_rfl) rfl (fun K24 hK24 => ?_)
      go_simp
      refine hK24.out _ _ (HSH.out _ bP) ?_
      (try simp only [Act.put, List.setIfInBounds_toArray])
      refine wpAnyG_end (by kernel_rfl) ?_
      have hIP : ItemsIn (putN U W.heap.size 0 [.int .i64 vk, .int .i64 vi, .int .i64 vm, .string vt, .slice sa vl.length sc]) (fun b => w.heap.size < b ∧ b ≠ W.heap.size ∧ b < (putN U W.heap.size 0 [.int .i64 vk, .int .i64 vi, .int .i64 vm, .string vt, .slice sa vl.length sc]).heap.size) n (.slice sa vl.length sc) vl := hI.kept (fun b o hb => World.cell?_of_block (putN_other hb.2.1 _ _ _)) (fun b hb => ⟨hb.1, hb.2.1, by rw [putN_size]; exact hb.2.2⟩)
      exact ⟨rfl, W.heap.size, _, rfl, by have := HZ.out; omega, hp, hIP, bP⟩
  case restZ =>
    rintro e a' U ⟨rfl, R, sl3, rfl, hR, hU, hI, bU⟩
    obtain ⟨sa, sc, rfl, _⟩ := hI.len
    have hc0 : ¬ c = 0 := by have := HC0.out; omega
    have u0 := cells_at hU 0 _ rfl
    have u1 := cells_at hU 1 _ rfl
    have u2 := cells_at hU 2 _ rfl
    have u3 := cells_at hU 3 _ rfl
    have u4 := cells_at hU 4 _ rfl
    have HUU := hide (And.intro hc0 bU)
    clear hU hI bU HSH HDEC HRD HLF hsl hsub x0 x1 hc0
    go_wp2_with (go_at_call 81; refine (sureV_6nA _ _ _ _ _ _ _ _ HUU.out.1 _).mono ?_; rintro e U2 ⟨rfl, b2⟩; have B2 := hide b2; clear b2)
    exact ⟨rfl, rfl, grown_of_below (trans_v bW (trans_v HUU.out.2 B2.out))⟩
end Go.Proofs.YthmhcpghfbifiaaGreatDoor
