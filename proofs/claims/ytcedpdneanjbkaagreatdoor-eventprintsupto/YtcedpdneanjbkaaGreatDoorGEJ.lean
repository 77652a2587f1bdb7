/- The reference's Same of events. -/
import Derived.Test.YtcedpdneanjbkaaGreatDoorGEG
import Derived.Test.YtcedpdneanjbkaaGreatDoorZESame
import Derived.Test.YtcedpdneanjbkaaGreatDoorGEF
import Derived.Test.YtcedpdneanjbkaaGreatDoorGEA
import Derived.Test.YtcedpdneanjbkaaGreatDoorGEH
import Derived.Test.YtcedpdneanjbkaaGreatDoorGHOpG
import Derived.ChangeMaps5
namespace Go.Proofs.YtcedpdneanjbkaaGreatDoor
open Go.RowKit
open Go.Lib (intOf)

theorem simR_eq (x y : Evn) : simB x y = ((x.kind == y.kind) && ((x.proc == y.proc) && ((x.obj == y.obj) && ((x.op == y.op) && (rightV x.val && (rightV y.val && decide (ordV x.val y.val = 0))))))) := by
  unfold simB
  congr 4
  cases hr : rightV x.val with
  | false => rfl
  | true =>
    by_cases hz : ordV x.val y.val = 0
    · have e := ordV_zero hz
      rw [e] at hr hz
      simp [e, hr, hz]
    · simp [hz]
theorem two_new (u : World) (o1 o2 : Obj) : ((u.alloc o1).alloc o2).heap[u.heap.size]? = some o1 ∧ ((u.alloc o1).alloc o2).heap[u.heap.size + 1]? = some o2 := by
  refine ⟨(Below.heap_alloc _ _ _ (by simp)).trans (World.alloc_heap_new u _), ?_⟩
  have := World.alloc_heap_new (u.alloc o1) o2
  rwa [World.size_alloc] at this
set_option maxRecDepth 100000 in
set_option maxHeartbeats 4000000 in
theorem refSame6_k (l r : List Evn) (w : World) (n m : Nat) (sa sb : Value) (ha : EvsAt w w.heap.size n sa l) (hb : EvsAt w w.heap.size m sb r) :
    Calls Tryz.prog 13 #[sa, sb] w fun e w' => e = .returned (.bool (sameB l r)) ∧ Below w.heap.size w w' := by
  obtain ⟨aa, ca, rfl, hla⟩ := ha.len
  obtain ⟨ab, cb, rfl, hlb⟩ := hb.len
  have HA := hide ha
  have HB := hide hb
  clear ha hb
  by_cases hl : l.length = r.length
  rotate_left
  · have hne : ((l.length : Int) != (r.length : Int)) = true := by simp; omega
    rw [sameB_len hl]
    clear hl
    go_enter Tryz.func13, Tryz.ntmps13
    go_wp2
    go_ret
    exact ⟨rfl, Below.refl _ _⟩
  have hne : ((l.length : Int) != (r.length : Int)) = false := by simp; omega
  have HL := hide hl
  clear hl
  go_enter Tryz.func13, Tryz.ntmps13
  go_wp2
  clear hne
  go_loopw [5] (fun i wr => ∃ k : Nat, k ≤ l.length ∧ i = .int .i64 k ∧ simTo l r k ∧ Below w.heap.size w wr) (fun i _ => l.length - (intOf i).toNat)
  case atStart => exact ⟨0, Nat.zero_le _, rfl, fun j _ _ h => absurd h (by omega), Below.refl _ _⟩
  case round =>
    obtain ⟨k, hk, rfl, hz, hbel⟩ := hrel
    by_cases hlt : k < l.length
    · have hlr : k < r.length := by have := HL.out; omega
      obtain ⟨b1, o1, s1, rfl, g1, p0, p1, p2, p3, p4, p5, p6, p7, p8, p9, p10, p11, p12, p13, p14⟩ := (HA.out.below hbel).item k hlt
      obtain ⟨b2, o2, s2, rfl, g2, q0, q1, q2, q3, q4, q5, q6, q7, q8, q9, q10, q11, q12, q13, q14⟩ := (HB.out.below hbel).item k hlr
      have l1 : b1 < wr.heap.size := by have := hbel.size; omega
      have l2 : b2 < wr.heap.size := by have := hbel.size; omega
      clear g1 g2
      obtain ⟨x1, y1, rfl, _⟩ := p12.len
      obtain ⟨x2, y2, rfl, _⟩ := q12.len
      have P12 := hide p12
      have Q12 := hide q12
      have PV := hide p13
      have QV := hide q13
      clear p12 q12 p13 q13
      go_wp2
      have HS := hide (fun (U : World) (b : Below wr.heap.size wr U) => b)
      refine Code.wp_mono (Q := fun e a U => e = .normal ∧ ∃ X Y : Nat, a = ⟨#[.slice (some ⟨b1, o1, none⟩) l.length ca, .slice (some ⟨b2, o2, none⟩) r.length cb, undef, undef, u4, .int .i64 k, .pointer (some ⟨X, 0, none⟩), .pointer (some ⟨Y, 0, none⟩), .slice (some ⟨b1, o1, none⟩) l.length ca, .int .i64 l.length, .slice (some ⟨b2, o2, none⟩) r.length cb, .int .i64 r.length, .bool false, .int .i64 k, .slice (some ⟨b1, o1, none⟩) l.length ca, .int .i64 l.length, .bool true, u17, u18, .slice (some ⟨b1, o1, none⟩) l.length ca, .int .i64 k, .pointer (some ⟨b1, o1 + k * 12, none⟩), .agg (evCells l[k] (.slice x1 l[k].val.items.length y1)), .slice (some ⟨b2, o2, none⟩) r.length cb, .int .i64 k, .pointer (some ⟨b2, o2 + k * 12, none⟩), .agg (evCells r[k] (.slice x2 r[k].val.items.length y2)), u27, u28, u29, u30, u31, u32, u33, u34, u35, u36, u37, u38, u39, u40, u41, u42, u43, u44, u45, u46, u47, u48, u49, u50, u51, u52, u53, u54, u55, u56, u57, u58, u59, u60, u61, u62, u63, u64, u65, u66, u67, u68, u69, u70, u71, u72], []⟩ ∧ U.heap[X]? = some (.cells (evCells l[k] (.slice x1 l[k].val.items.length y1)) 50 (0, 0)) ∧ U.heap[Y]? = some (.cells (evCells r[k] (.slice x2 r[k].val.items.length y2)) 50 (0, 0)) ∧ Below wr.heap.size wr U) ?rest
        (wp_region_G 12 (fun U => Below wr.heap.size wr U) (by kernel_rfl) (by kernel_rfl) ?reg6)
      case reg6 =>
        refine wpAnyG_take (i := 0) (v := ?v0) (by kernel_rfl) rfl (by kernel_rfl) (by kernel_rfl) (fun _ _ _ h => by cases h.1) (Or.inl ⟨by rfl, ?hy0⟩) (below_drew (Below.refl _ _)) ?rest0
        case hy0 => intro U hU; go_simp; (try with_reducible rfl)
        case rest0 =>
        (try simp only [Act.put, List.setIfInBounds_toArray])
        refine wpAnyG_take (i := 1) (v := ?v1) (by kernel_rfl) rfl (by kernel_rfl) (by kernel_rfl) (fun _ _ _ h => by cases h.1) (Or.inl ⟨by rfl, ?hy1⟩) (below_drew (Below.refl _ _)) ?rest1
        case hy1 => intro U hU; go_simp; (try with_reducible rfl)
        case rest1 =>
        (try simp only [Act.put])
        refine wpAnyG_take (i := 2) (v := ?v2) (by kernel_rfl) rfl (by kernel_rfl) (by kernel_rfl) (fun _ _ _ h => by cases h.1) (Or.inl ⟨by rfl, ?hy2⟩) (below_drew (Below.refl _ _)) ?rest2
        case hy2 => intro U hU; go_simp; (try with_reducible rfl)
        case rest2 =>
        (try simp only [Act.put])
        refine wpAnyG_take (i := 3) (v := ?v3) (by kernel_rfl) rfl (by kernel_rfl) (by kernel_rfl) (fun _ _ _ h => by cases h.1) (Or.inl ⟨by rfl, ?hy3⟩) (below_drew (Below.refl _ _)) ?rest3
        case hy3 => intro U hU; have up0 := (hU.cell (p := ⟨b1, o1 + k * 12, none⟩) l1).trans p0; have up1 := (hU.cell (p := ⟨b1, o1 + k * 12 + 1, none⟩) l1).trans p1; have up2 := (hU.cell (p := ⟨b1, o1 + k * 12 + 2, none⟩) l1).trans p2; have up3 := (hU.cell (p := ⟨b1, o1 + k * 12 + 3, none⟩) l1).trans p3; have up4 := (hU.cell (p := ⟨b1, o1 + k * 12 + 4, none⟩) l1).trans p4; have up5 := (hU.cell (p := ⟨b1, o1 + k * 12 + 5, none⟩) l1).trans p5; have up6 := (hU.cell (p := ⟨b1, o1 + k * 12 + 6, none⟩) l1).trans p6; have up7 := (hU.cell (p := ⟨b1, o1 + k * 12 + 7, none⟩) l1).trans p7; have up8 := (hU.cell (p := ⟨b1, o1 + k * 12 + 8, none⟩) l1).trans p8; have up9 := (hU.cell (p := ⟨b1, o1 + k * 12 + 9, none⟩) l1).trans p9; have up10 := (hU.cell (p := ⟨b1, o1 + k * 12 + 10, none⟩) l1).trans p10; have up11 := (hU.cell (p := ⟨b1, o1 + k * 12 + 11, none⟩) l1).trans p11; go_simp; (try with_reducible rfl)
        case rest3 =>
        (try simp only [Act.put])
        refine wpAnyG_take (i := 4) (v := ?v4) (by kernel_rfl) rfl (by kernel_rfl) (by kernel_rfl) (fun _ _ _ h => by cases h.1) (Or.inl ⟨by rfl, ?hy4⟩) (below_drew (Below.refl _ _)) ?rest4
        case hy4 => intro U hU; go_simp; (try with_reducible rfl)
        case rest4 =>
        (try simp only [Act.put])
        refine wpAnyG_take (i := 5) (v := ?v5) (by kernel_rfl) rfl (by kernel_rfl) (by kernel_rfl) (fun _ _ _ h => by cases h.1) (Or.inl ⟨by rfl, ?hy5⟩) (below_drew (Below.refl _ _)) ?rest5
        case hy5 => intro U hU; go_simp; (try with_reducible rfl)
        case rest5 =>
        (try simp only [Act.put])
        refine wpAnyG_take (i := 6) (v := ?v6) (by kernel_rfl) rfl (by kernel_rfl) (by kernel_rfl) (fun _ _ _ h => by cases h.1) (Or.inl ⟨by rfl, ?hy6⟩) (below_drew (Below.refl _ _)) ?rest6
        case hy6 => intro U hU; go_simp; (try with_reducible rfl)
        case rest6 =>
        (try simp only [Act.put])
        refine wpAnyG_take (i := 7) (v := ?v7) (by kernel_rfl) rfl (by kernel_rfl) (by kernel_rfl) (fun _ _ _ h => by cases h.1) (Or.inl ⟨by rfl, ?hy7⟩) (below_drew (Below.refl _ _)) ?rest7
        case hy7 => intro U hU; have uq0 := (hU.cell (p := ⟨b2, o2 + k * 12, none⟩) l2).trans q0; have uq1 := (hU.cell (p := ⟨b2, o2 + k * 12 + 1, none⟩) l2).trans q1; have uq2 := (hU.cell (p := ⟨b2, o2 + k * 12 + 2, none⟩) l2).trans q2; have uq3 := (hU.cell (p := ⟨b2, o2 + k * 12 + 3, none⟩) l2).trans q3; have uq4 := (hU.cell (p := ⟨b2, o2 + k * 12 + 4, none⟩) l2).trans q4; have uq5 := (hU.cell (p := ⟨b2, o2 + k * 12 + 5, none⟩) l2).trans q5; have uq6 := (hU.cell (p := ⟨b2, o2 + k * 12 + 6, none⟩) l2).trans q6; have uq7 := (hU.cell (p := ⟨b2, o2 + k * 12 + 7, none⟩) l2).trans q7; have uq8 := (hU.cell (p := ⟨b2, o2 + k * 12 + 8, none⟩) l2).trans q8; have uq9 := (hU.cell (p := ⟨b2, o2 + k * 12 + 9, none⟩) l2).trans q9; have uq10 := (hU.cell (p := ⟨b2, o2 + k * 12 + 10, none⟩) l2).trans q10; have uq11 := (hU.cell (p := ⟨b2, o2 + k * 12 + 11, none⟩) l2).trans q11; go_simp; (try with_reducible rfl)
        case rest7 =>
        (try simp only [Act.put])
        refine wpAnyG_two (i := 8) (j := 9) (by kernel_rfl) rfl rfl (fun K8 hK8 => ?pa) (fun K8 hK8 => ?pb)
        case pa =>
          go_simp
          refine hK8.out _ _ (below_drew (alloc_v (Below.refl _ _) _)) ?_
          (try simp only [Act.put, List.setIfInBounds_toArray])
          refine wpAnyG_one (i := 9) (by kernel_rfl) rfl (fun K9 hK9 => ?_)
          go_simp
          obtain ⟨V, hV⟩ : ∃ V, ((wr.alloc (.cells #[.int .i64 0, .string ⟨#[]⟩, .string ⟨#[]⟩, .string ⟨#[]⟩, .int .i64 0, .int .i64 0, .int .i64 0, .string ⟨#[]⟩, .slice none 0 0, .int .i64 0, .int .i64 0, .int .i64 0] 50)).alloc (.cells #[.int .i64 0, .string ⟨#[]⟩, .string ⟨#[]⟩, .string ⟨#[]⟩, .int .i64 0, .int .i64 0, .int .i64 0, .string ⟨#[]⟩, .slice none 0 0, .int .i64 0, .int .i64 0, .int .i64 0] 50)).drew = V := ⟨_, rfl⟩
          have bV : Below wr.heap.size wr V := by rw [← hV]; exact below_drew (alloc_v (alloc_v (Below.refl _ _) _) _)
          have eX : V.heap[wr.heap.size]? = some (.cells #[.int .i64 0, .string ⟨#[]⟩, .string ⟨#[]⟩, .string ⟨#[]⟩, .int .i64 0, .int .i64 0, .int .i64 0, .string ⟨#[]⟩, .slice none 0 0, .int .i64 0, .int .i64 0, .int .i64 0] 50 (0, 0)) := by rw [← hV]; exact (two_new wr _ _).1
          have eY : V.heap[wr.heap.size + 1]? = some (.cells #[.int .i64 0, .string ⟨#[]⟩, .string ⟨#[]⟩, .string ⟨#[]⟩, .int .i64 0, .int .i64 0, .int .i64 0, .string ⟨#[]⟩, .slice none 0 0, .int .i64 0, .int .i64 0, .int .i64 0] 50 (0, 0)) := by rw [← hV]; exact (two_new wr _ _).2
          rw [hV]
          refine hK9.out _ _ bV ?_
          (try simp only [Act.put, List.setIfInBounds_toArray])
          skip
          have gx0 := cells_at eX 0 _ rfl
          have hx0 := frozen_at eX 0
          have gx1 := cells_at eX 1 _ rfl
          have hx1 := frozen_at eX 1
          have gx2 := cells_at eX 2 _ rfl
          have hx2 := frozen_at eX 2
          have gx3 := cells_at eX 3 _ rfl
          have hx3 := frozen_at eX 3
          have gx4 := cells_at eX 4 _ rfl
          have hx4 := frozen_at eX 4
          have gx5 := cells_at eX 5 _ rfl
          have hx5 := frozen_at eX 5
          have gx6 := cells_at eX 6 _ rfl
          have hx6 := frozen_at eX 6
          have gx7 := cells_at eX 7 _ rfl
          have hx7 := frozen_at eX 7
          have gx8 := cells_at eX 8 _ rfl
          have hx8 := frozen_at eX 8
          have gx9 := cells_at eX 9 _ rfl
          have hx9 := frozen_at eX 9
          have gx10 := cells_at eX 10 _ rfl
          have hx10 := frozen_at eX 10
          have gx11 := cells_at eX 11 _ rfl
          have hx11 := frozen_at eX 11
          refine wpAnyG_one (i := 10) (by kernel_rfl) rfl (fun K10 hK10 => ?_)
          go_simp
          have eX2 := putN_at [.int .i64 l[k].kind, .string (bsN l[k].proc), .string (bsN l[k].obj), .string (bsN l[k].op), .int .i64 l[k].val.kind, .int .i64 l[k].val.int, .int .i64 l[k].val.im, .string l[k].val.text, (.slice x1 l[k].val.items.length y1), .int .i64 l[k].off, .int .i64 l[k].line, .int .i64 l[k].col] 0 V _ eX rfl
          have eY2 := (putN_other (b := wr.heap.size) (k := wr.heap.size + 1) (by omega) [.int .i64 l[k].kind, .string (bsN l[k].proc), .string (bsN l[k].obj), .string (bsN l[k].op), .int .i64 l[k].val.kind, .int .i64 l[k].val.int, .int .i64 l[k].val.im, .string l[k].val.text, (.slice x1 l[k].val.items.length y1), .int .i64 l[k].off, .int .i64 l[k].line, .int .i64 l[k].col] 0 V).trans eY
          have gP := putN_far (grown_of_below (r := none) bV) (b := wr.heap.size) (by omega) [.int .i64 l[k].kind, .string (bsN l[k].proc), .string (bsN l[k].obj), .string (bsN l[k].op), .int .i64 l[k].val.kind, .int .i64 l[k].val.int, .int .i64 l[k].val.im, .string l[k].val.text, (.slice x1 l[k].val.items.length y1), .int .i64 l[k].off, .int .i64 l[k].line, .int .i64 l[k].col] 0
          obtain ⟨V2, hV2⟩ : ∃ V2, putN V (wr.heap.size) 0 [.int .i64 l[k].kind, .string (bsN l[k].proc), .string (bsN l[k].obj), .string (bsN l[k].op), .int .i64 l[k].val.kind, .int .i64 l[k].val.int, .int .i64 l[k].val.im, .string l[k].val.text, (.slice x1 l[k].val.items.length y1), .int .i64 l[k].off, .int .i64 l[k].line, .int .i64 l[k].col] = V2 := ⟨_, rfl⟩
          rw [hV2] at eX2 eY2 gP
          have bV2 : Below wr.heap.size wr V2 := ⟨gP.os, gP.tape, gP.output, gP.size, fun k hk => gP.block k hk (by simp)⟩
          have hv2 := hK10.out
          clear gx0 hx0 gx1 hx1 gx2 hx2 gx3 hx3 gx4 hx4 gx5 hx5 gx6 hx6 gx7 hx7 gx8 hx8 gx9 hx9 gx10 hx10 gx11 hx11
          have gy0 := cells_at eY2 0 _ rfl
          have hy0 := frozen_at eY2 0
          have gy1 := cells_at eY2 1 _ rfl
          have hy1 := frozen_at eY2 1
          have gy2 := cells_at eY2 2 _ rfl
          have hy2 := frozen_at eY2 2
          have gy3 := cells_at eY2 3 _ rfl
          have hy3 := frozen_at eY2 3
          have gy4 := cells_at eY2 4 _ rfl
          have hy4 := frozen_at eY2 4
          have gy5 := cells_at eY2 5 _ rfl
          have hy5 := frozen_at eY2 5
          have gy6 := cells_at eY2 6 _ rfl
          have hy6 := frozen_at eY2 6
          have gy7 := cells_at eY2 7 _ rfl
          have hy7 := frozen_at eY2 7
          have gy8 := cells_at eY2 8 _ rfl
          have hy8 := frozen_at eY2 8
          have gy9 := cells_at eY2 9 _ rfl
          have hy9 := frozen_at eY2 9
          have gy10 := cells_at eY2 10 _ rfl
          have hy10 := frozen_at eY2 10
          have gy11 := cells_at eY2 11 _ rfl
          have hy11 := frozen_at eY2 11
          skip
          have h10 : ∀ a, wpAnyG _ _ _ _ _ _ _ a V2 → K10 a V2 := fun a h => hv2 a V2 bV2 h
          change K10 _ (putN V (wr.heap.size) 0 [.int .i64 l[k].kind, .string (bsN l[k].proc), .string (bsN l[k].obj), .string (bsN l[k].op), .int .i64 l[k].val.kind, .int .i64 l[k].val.int, .int .i64 l[k].val.im, .string l[k].val.text, (.slice x1 l[k].val.items.length y1), .int .i64 l[k].off, .int .i64 l[k].line, .int .i64 l[k].col])
          rw [hV2]
          refine h10 _ ?_
          (try simp only [Act.put, List.setIfInBounds_toArray])
          refine wpAnyG_one (i := 11) (by kernel_rfl) rfl (fun K11 hK11 => ?_)
          go_simp
          have eY3 := putN_at [.int .i64 r[k].kind, .string (bsN r[k].proc), .string (bsN r[k].obj), .string (bsN r[k].op), .int .i64 r[k].val.kind, .int .i64 r[k].val.int, .int .i64 r[k].val.im, .string r[k].val.text, (.slice x2 r[k].val.items.length y2), .int .i64 r[k].off, .int .i64 r[k].line, .int .i64 r[k].col] 0 V2 _ eY2 rfl
          have eX3 := (putN_other (b := wr.heap.size + 1) (k := wr.heap.size) (by omega) [.int .i64 r[k].kind, .string (bsN r[k].proc), .string (bsN r[k].obj), .string (bsN r[k].op), .int .i64 r[k].val.kind, .int .i64 r[k].val.int, .int .i64 r[k].val.im, .string r[k].val.text, (.slice x2 r[k].val.items.length y2), .int .i64 r[k].off, .int .i64 r[k].line, .int .i64 r[k].col] 0 V2).trans eX2
          have gP3 := putN_far (grown_of_below (r := none) bV2) (b := wr.heap.size + 1) (by omega) [.int .i64 r[k].kind, .string (bsN r[k].proc), .string (bsN r[k].obj), .string (bsN r[k].op), .int .i64 r[k].val.kind, .int .i64 r[k].val.int, .int .i64 r[k].val.im, .string r[k].val.text, (.slice x2 r[k].val.items.length y2), .int .i64 r[k].off, .int .i64 r[k].line, .int .i64 r[k].col] 0
          have bV3 : Below wr.heap.size wr (putN V2 (wr.heap.size + 1) 0 [.int .i64 r[k].kind, .string (bsN r[k].proc), .string (bsN r[k].obj), .string (bsN r[k].op), .int .i64 r[k].val.kind, .int .i64 r[k].val.int, .int .i64 r[k].val.im, .string r[k].val.text, (.slice x2 r[k].val.items.length y2), .int .i64 r[k].off, .int .i64 r[k].line, .int .i64 r[k].col]) := ⟨gP3.os, gP3.tape, gP3.output, gP3.size, fun k hk => gP3.block k hk (by simp)⟩
          change K11 _ (putN V2 (wr.heap.size + 1) 0 [.int .i64 r[k].kind, .string (bsN r[k].proc), .string (bsN r[k].obj), .string (bsN r[k].op), .int .i64 r[k].val.kind, .int .i64 r[k].val.int, .int .i64 r[k].val.im, .string r[k].val.text, (.slice x2 r[k].val.items.length y2), .int .i64 r[k].off, .int .i64 r[k].line, .int .i64 r[k].col])
          refine hK11.out _ _ bV3 ?_
          refine wpAnyG_end (by kernel_rfl) ?_
          exact ⟨rfl, wr.heap.size, wr.heap.size + 1, rfl, eX3, eY3, bV3⟩
        case pb =>
          go_simp
          refine hK8.out _ _ (below_drew (alloc_v (Below.refl _ _) _)) ?_
          (try simp only [Act.put, List.setIfInBounds_toArray])
          refine wpAnyG_one (i := 8) (by kernel_rfl) rfl (fun K9 hK9 => ?_)
          go_simp
          obtain ⟨V, hV⟩ : ∃ V, ((wr.alloc (.cells #[.int .i64 0, .string ⟨#[]⟩, .string ⟨#[]⟩, .string ⟨#[]⟩, .int .i64 0, .int .i64 0, .int .i64 0, .string ⟨#[]⟩, .slice none 0 0, .int .i64 0, .int .i64 0, .int .i64 0] 50)).alloc (.cells #[.int .i64 0, .string ⟨#[]⟩, .string ⟨#[]⟩, .string ⟨#[]⟩, .int .i64 0, .int .i64 0, .int .i64 0, .string ⟨#[]⟩, .slice none 0 0, .int .i64 0, .int .i64 0, .int .i64 0] 50)).drew = V := ⟨_, rfl⟩
          have bV : Below wr.heap.size wr V := by rw [← hV]; exact below_drew (alloc_v (alloc_v (Below.refl _ _) _) _)
          have eY : V.heap[wr.heap.size]? = some (.cells #[.int .i64 0, .string ⟨#[]⟩, .string ⟨#[]⟩, .string ⟨#[]⟩, .int .i64 0, .int .i64 0, .int .i64 0, .string ⟨#[]⟩, .slice none 0 0, .int .i64 0, .int .i64 0, .int .i64 0] 50 (0, 0)) := by rw [← hV]; exact (two_new wr _ _).1
          have eX : V.heap[wr.heap.size + 1]? = some (.cells #[.int .i64 0, .string ⟨#[]⟩, .string ⟨#[]⟩, .string ⟨#[]⟩, .int .i64 0, .int .i64 0, .int .i64 0, .string ⟨#[]⟩, .slice none 0 0, .int .i64 0, .int .i64 0, .int .i64 0] 50 (0, 0)) := by rw [← hV]; exact (two_new wr _ _).2
          rw [hV]
          refine hK9.out _ _ bV ?_
          (try simp only [Act.put, List.setIfInBounds_toArray])
          skip
          have gx0 := cells_at eX 0 _ rfl
          have hx0 := frozen_at eX 0
          have gx1 := cells_at eX 1 _ rfl
          have hx1 := frozen_at eX 1
          have gx2 := cells_at eX 2 _ rfl
          have hx2 := frozen_at eX 2
          have gx3 := cells_at eX 3 _ rfl
          have hx3 := frozen_at eX 3
          have gx4 := cells_at eX 4 _ rfl
          have hx4 := frozen_at eX 4
          have gx5 := cells_at eX 5 _ rfl
          have hx5 := frozen_at eX 5
          have gx6 := cells_at eX 6 _ rfl
          have hx6 := frozen_at eX 6
          have gx7 := cells_at eX 7 _ rfl
          have hx7 := frozen_at eX 7
          have gx8 := cells_at eX 8 _ rfl
          have hx8 := frozen_at eX 8
          have gx9 := cells_at eX 9 _ rfl
          have hx9 := frozen_at eX 9
          have gx10 := cells_at eX 10 _ rfl
          have hx10 := frozen_at eX 10
          have gx11 := cells_at eX 11 _ rfl
          have hx11 := frozen_at eX 11
          refine wpAnyG_one (i := 10) (by kernel_rfl) rfl (fun K10 hK10 => ?_)
          go_simp
          have eX2 := putN_at [.int .i64 l[k].kind, .string (bsN l[k].proc), .string (bsN l[k].obj), .string (bsN l[k].op), .int .i64 l[k].val.kind, .int .i64 l[k].val.int, .int .i64 l[k].val.im, .string l[k].val.text, (.slice x1 l[k].val.items.length y1), .int .i64 l[k].off, .int .i64 l[k].line, .int .i64 l[k].col] 0 V _ eX rfl
          have eY2 := (putN_other (b := wr.heap.size + 1) (k := wr.heap.size) (by omega) [.int .i64 l[k].kind, .string (bsN l[k].proc), .string (bsN l[k].obj), .string (bsN l[k].op), .int .i64 l[k].val.kind, .int .i64 l[k].val.int, .int .i64 l[k].val.im, .string l[k].val.text, (.slice x1 l[k].val.items.length y1), .int .i64 l[k].off, .int .i64 l[k].line, .int .i64 l[k].col] 0 V).trans eY
          have gP := putN_far (grown_of_below (r := none) bV) (b := wr.heap.size + 1) (by omega) [.int .i64 l[k].kind, .string (bsN l[k].proc), .string (bsN l[k].obj), .string (bsN l[k].op), .int .i64 l[k].val.kind, .int .i64 l[k].val.int, .int .i64 l[k].val.im, .string l[k].val.text, (.slice x1 l[k].val.items.length y1), .int .i64 l[k].off, .int .i64 l[k].line, .int .i64 l[k].col] 0
          obtain ⟨V2, hV2⟩ : ∃ V2, putN V (wr.heap.size + 1) 0 [.int .i64 l[k].kind, .string (bsN l[k].proc), .string (bsN l[k].obj), .string (bsN l[k].op), .int .i64 l[k].val.kind, .int .i64 l[k].val.int, .int .i64 l[k].val.im, .string l[k].val.text, (.slice x1 l[k].val.items.length y1), .int .i64 l[k].off, .int .i64 l[k].line, .int .i64 l[k].col] = V2 := ⟨_, rfl⟩
          rw [hV2] at eX2 eY2 gP
          have bV2 : Below wr.heap.size wr V2 := ⟨gP.os, gP.tape, gP.output, gP.size, fun k hk => gP.block k hk (by simp)⟩
          have hv2 := hK10.out
          clear gx0 hx0 gx1 hx1 gx2 hx2 gx3 hx3 gx4 hx4 gx5 hx5 gx6 hx6 gx7 hx7 gx8 hx8 gx9 hx9 gx10 hx10 gx11 hx11
          have gy0 := cells_at eY2 0 _ rfl
          have hy0 := frozen_at eY2 0
          have gy1 := cells_at eY2 1 _ rfl
          have hy1 := frozen_at eY2 1
          have gy2 := cells_at eY2 2 _ rfl
          have hy2 := frozen_at eY2 2
          have gy3 := cells_at eY2 3 _ rfl
          have hy3 := frozen_at eY2 3
          have gy4 := cells_at eY2 4 _ rfl
          have hy4 := frozen_at eY2 4
          have gy5 := cells_at eY2 5 _ rfl
          have hy5 := frozen_at eY2 5
          have gy6 := cells_at eY2 6 _ rfl
          have hy6 := frozen_at eY2 6
          have gy7 := cells_at eY2 7 _ rfl
          have hy7 := frozen_at eY2 7
          have gy8 := cells_at eY2 8 _ rfl
          have hy8 := frozen_at eY2 8
          have gy9 := cells_at eY2 9 _ rfl
          have hy9 := frozen_at eY2 9
          have gy10 := cells_at eY2 10 _ rfl
          have hy10 := frozen_at eY2 10
          have gy11 := cells_at eY2 11 _ rfl
          have hy11 := frozen_at eY2 11
          skip
          have h10 : ∀ a, wpAnyG _ _ _ _ _ _ _ a V2 → K10 a V2 := fun a h => hv2 a V2 bV2 h
          change K10 _ (putN V (wr.heap.size + 1) 0 [.int .i64 l[k].kind, .string (bsN l[k].proc), .string (bsN l[k].obj), .string (bsN l[k].op), .int .i64 l[k].val.kind, .int .i64 l[k].val.int, .int .i64 l[k].val.im, .string l[k].val.text, (.slice x1 l[k].val.items.length y1), .int .i64 l[k].off, .int .i64 l[k].line, .int .i64 l[k].col])
          rw [hV2]
          refine h10 _ ?_
          (try simp only [Act.put, List.setIfInBounds_toArray])
          refine wpAnyG_one (i := 11) (by kernel_rfl) rfl (fun K11 hK11 => ?_)
          go_simp
          have eY3 := putN_at [.int .i64 r[k].kind, .string (bsN r[k].proc), .string (bsN r[k].obj), .string (bsN r[k].op), .int .i64 r[k].val.kind, .int .i64 r[k].val.int, .int .i64 r[k].val.im, .string r[k].val.text, (.slice x2 r[k].val.items.length y2), .int .i64 r[k].off, .int .i64 r[k].line, .int .i64 r[k].col] 0 V2 _ eY2 rfl
          have eX3 := (putN_other (b := wr.heap.size) (k := wr.heap.size + 1) (by omega) [.int .i64 r[k].kind, .string (bsN r[k].proc), .string (bsN r[k].obj), .string (bsN r[k].op), .int .i64 r[k].val.kind, .int .i64 r[k].val.int, .int .i64 r[k].val.im, .string r[k].val.text, (.slice x2 r[k].val.items.length y2), .int .i64 r[k].off, .int .i64 r[k].line, .int .i64 r[k].col] 0 V2).trans eX2
          have gP3 := putN_far (grown_of_below (r := none) bV2) (b := wr.heap.size) (by omega) [.int .i64 r[k].kind, .string (bsN r[k].proc), .string (bsN r[k].obj), .string (bsN r[k].op), .int .i64 r[k].val.kind, .int .i64 r[k].val.int, .int .i64 r[k].val.im, .string r[k].val.text, (.slice x2 r[k].val.items.length y2), .int .i64 r[k].off, .int .i64 r[k].line, .int .i64 r[k].col] 0
          have bV3 : Below wr.heap.size wr (putN V2 (wr.heap.size) 0 [.int .i64 r[k].kind, .string (bsN r[k].proc), .string (bsN r[k].obj), .string (bsN r[k].op), .int .i64 r[k].val.kind, .int .i64 r[k].val.int, .int .i64 r[k].val.im, .string r[k].val.text, (.slice x2 r[k].val.items.length y2), .int .i64 r[k].off, .int .i64 r[k].line, .int .i64 r[k].col]) := ⟨gP3.os, gP3.tape, gP3.output, gP3.size, fun k hk => gP3.block k hk (by simp)⟩
          change K11 _ (putN V2 (wr.heap.size) 0 [.int .i64 r[k].kind, .string (bsN r[k].proc), .string (bsN r[k].obj), .string (bsN r[k].op), .int .i64 r[k].val.kind, .int .i64 r[k].val.int, .int .i64 r[k].val.im, .string r[k].val.text, (.slice x2 r[k].val.items.length y2), .int .i64 r[k].off, .int .i64 r[k].line, .int .i64 r[k].col])
          refine hK11.out _ _ bV3 ?_
          refine wpAnyG_end (by kernel_rfl) ?_
          exact ⟨rfl, wr.heap.size + 1, wr.heap.size, rfl, eX3, eY3, bV3⟩
      case rest =>
        rintro e a U ⟨rfl, X, Y, rfl, hX, hY, bU⟩
        have lX := (Array.getElem?_eq_some_iff.1 hX).1
        have lY := (Array.getElem?_eq_some_iff.1 hY).1
        have HE := hide (And.intro hX hY)
        have c0 := cells_at hX 0 _ rfl
        have c1 := cells_at hX 1 _ rfl
        have c2 := cells_at hX 2 _ rfl
        have c3 := cells_at hX 3 _ rfl
        have c4 := cells_at hX 4 _ rfl
        have c5 := cells_at hX 5 _ rfl
        have c6 := cells_at hX 6 _ rfl
        have c7 := cells_at hX 7 _ rfl
        have c8 := cells_at hX 8 _ rfl
        have d0 := cells_at hY 0 _ rfl
        have d1 := cells_at hY 1 _ rfl
        have d2 := cells_at hY 2 _ rfl
        have d3 := cells_at hY 3 _ rfl
        have d4 := cells_at hY 4 _ rfl
        have d5 := cells_at hY 5 _ rfl
        have d6 := cells_at hY 6 _ rfl
        have d7 := cells_at hY 7 _ rfl
        have d8 := cells_at hY 8 _ rfl
        have HRX := hide (fun (V : World) (b : Below U.heap.size U V) => refRight_k l[k].val V n (.slice x1 l[k].val.items.length y1) PV.out.val.1 ((P12.out.below (Below.mono (trans_v bU b) hbel.size)).up (by have := (trans_v bU b).size; have := hbel.size; omega)))
        have HRY := hide (fun (V : World) (b : Below U.heap.size U V) => refRight_k r[k].val V m (.slice x2 r[k].val.items.length y2) QV.out.val.1 ((Q12.out.below (Below.mono (trans_v bU b) hbel.size)).up (by have := (trans_v bU b).size; have := hbel.size; omega)))
        have HSM := hide (fun (V : World) (b : Below U.heap.size U V) => sameV6_k l[k].val r[k].val V w.heap.size n m (.slice x1 l[k].val.items.length y1) (.slice x2 r[k].val.items.length y2) (by have := (trans_v bU b).size; have := hbel.size; omega) (P12.out.below (Below.mono (trans_v bU b) hbel.size)) (Q12.out.below (Below.mono (trans_v bU b) hbel.size)))
        have HZ := hide (fun (h : simB l[k] r[k] = true) => (show simTo l r (k + 1) from fun j h1 h2 h3 => by
          by_cases e : j = k
          · subst e; exact h
          · exact hz j h1 h2 (by omega)))
        have HN := hide (fun (h : simB l[k] r[k] = false) => sameB_no HL.out hlt hlr h)
        have HBU := hide (trans_v hbel bU)
        rw [simR_eq] at HZ HN
        have q1 := sim_eq l[k].proc r[k].proc
        have q2 := sim_eq l[k].obj r[k].obj
        have q3 := sim_eq l[k].op r[k].op
        clear hz P12 Q12 PV QV hbel bU HS hX hY p0 p1 p2 p3 p4 p5 p6 p7 p8 p9 p10 p11 p14 q0 q4 q5 q6 q7 q8 q9 q10 q11 q14 HA HB
        generalize l[k] = x at *
        generalize r[k] = y at *
        generalize hb0 : (x.kind == y.kind) = bb0 at *
        generalize hb1 : (x.proc == y.proc) = bb1 at *
        generalize hb2 : (x.obj == y.obj) = bb2 at *
        generalize hb3 : (x.op == y.op) = bb3 at *
        generalize rightV x.val = rx at *
        generalize rightV y.val = ry at *
        generalize decide (ordV x.val y.val = 0) = zb at *
        cases bb0
        · have hn0 : (x.kind != y.kind) = true := by simp only [bne, hb0]; rfl
          go_wp2
          go_ret
          exact ⟨by rw [HN.out rfl]; rfl, HBU.out⟩
        have hn0 : (x.kind != y.kind) = false := by simp only [bne, hb0]; rfl
        cases bb1
        · have hn1 : ((bsN x.proc).toList != (bsN y.proc).toList) = true := by simp only [bne, q1]; rfl
          go_wp2
          go_ret
          exact ⟨by rw [HN.out rfl]; rfl, HBU.out⟩
        have hn1 : ((bsN x.proc).toList != (bsN y.proc).toList) = false := by simp only [bne, q1]; rfl
        cases bb2
        · have hn2 : ((bsN x.obj).toList != (bsN y.obj).toList) = true := by simp only [bne, q2]; rfl
          go_wp2
          go_ret
          exact ⟨by rw [HN.out rfl]; rfl, HBU.out⟩
        have hn2 : ((bsN x.obj).toList != (bsN y.obj).toList) = false := by simp only [bne, q2]; rfl
        cases bb3
        · have hn3 : ((bsN x.op).toList != (bsN y.op).toList) = true := by simp only [bne, q3]; rfl
          go_wp2
          go_ret
          exact ⟨by rw [HN.out rfl]; rfl, HBU.out⟩
        have hn3 : ((bsN x.op).toList != (bsN y.op).toList) = false := by simp only [bne, q3]; rfl
        cases rx
        · go_wp2_with (go_at_call 29; refine (HRX.out _ (Below.refl _ _)).mono ?_; clear HRX; rintro e w2 ⟨rfl, b2⟩; have f2 := (b2.block _ lY).trans HE.out.2; have k4 := cells_at f2 4 _ rfl; have k5 := cells_at f2 5 _ rfl; have k6 := cells_at f2 6 _ rfl; have k7 := cells_at f2 7 _ rfl; have k8 := cells_at f2 8 _ rfl; have B2 := hide b2; clear f2 b2)
          go_ret
          exact ⟨by rw [HN.out rfl]; rfl, trans_v HBU.out B2.out⟩
        cases ry
        · go_wp2_with (first | (go_at_call 29; refine (HRY.out _ B2.out).mono ?_; clear HRY; rintro e w3 ⟨rfl, b3⟩; have B3 := hide (trans_v B2.out b3); have f3 := (B3.out.block _ lX).trans HE.out.1; have f4 := (B3.out.block _ lY).trans HE.out.2; have m4 := cells_at f3 4 _ rfl; have m5 := cells_at f3 5 _ rfl; have m6 := cells_at f3 6 _ rfl; have m7 := cells_at f3 7 _ rfl; have m8 := cells_at f3 8 _ rfl; have n4 := cells_at f4 4 _ rfl; have n5 := cells_at f4 5 _ rfl; have n6 := cells_at f4 6 _ rfl; have n7 := cells_at f4 7 _ rfl; have n8 := cells_at f4 8 _ rfl; clear f3 f4 b3) | (go_at_call 29; refine (HRX.out _ (Below.refl _ _)).mono ?_; clear HRX; rintro e w2 ⟨rfl, b2⟩; have f2 := (b2.block _ lY).trans HE.out.2; have k4 := cells_at f2 4 _ rfl; have k5 := cells_at f2 5 _ rfl; have k6 := cells_at f2 6 _ rfl; have k7 := cells_at f2 7 _ rfl; have k8 := cells_at f2 8 _ rfl; have B2 := hide b2; clear f2 b2))
          go_ret
          exact ⟨by rw [HN.out rfl]; rfl, trans_v HBU.out B3.out⟩
        cases zb
        · go_wp2_with (first | (go_at_call 29; refine (HRY.out _ B2.out).mono ?_; clear HRY; rintro e w3 ⟨rfl, b3⟩; have B3 := hide (trans_v B2.out b3); have f3 := (B3.out.block _ lX).trans HE.out.1; have f4 := (B3.out.block _ lY).trans HE.out.2; have m4 := cells_at f3 4 _ rfl; have m5 := cells_at f3 5 _ rfl; have m6 := cells_at f3 6 _ rfl; have m7 := cells_at f3 7 _ rfl; have m8 := cells_at f3 8 _ rfl; have n4 := cells_at f4 4 _ rfl; have n5 := cells_at f4 5 _ rfl; have n6 := cells_at f4 6 _ rfl; have n7 := cells_at f4 7 _ rfl; have n8 := cells_at f4 8 _ rfl; clear f3 f4 b3) | (go_at_call 29; refine (HRX.out _ (Below.refl _ _)).mono ?_; clear HRX; rintro e w2 ⟨rfl, b2⟩; have f2 := (b2.block _ lY).trans HE.out.2; have k4 := cells_at f2 4 _ rfl; have k5 := cells_at f2 5 _ rfl; have k6 := cells_at f2 6 _ rfl; have k7 := cells_at f2 7 _ rfl; have k8 := cells_at f2 8 _ rfl; have B2 := hide b2; clear f2 b2) | (go_at_call 30; refine (HSM.out _ B3.out).mono ?_; clear HSM; rintro e w4 ⟨rfl, b4⟩; have B4 := hide (trans_v B3.out b4); clear b4))
          go_ret
          exact ⟨by rw [HN.out rfl]; rfl, trans_v HBU.out B4.out⟩
        · go_wp2_with (first | (go_at_call 29; refine (HRY.out _ B2.out).mono ?_; clear HRY; rintro e w3 ⟨rfl, b3⟩; have B3 := hide (trans_v B2.out b3); have f3 := (B3.out.block _ lX).trans HE.out.1; have f4 := (B3.out.block _ lY).trans HE.out.2; have m4 := cells_at f3 4 _ rfl; have m5 := cells_at f3 5 _ rfl; have m6 := cells_at f3 6 _ rfl; have m7 := cells_at f3 7 _ rfl; have m8 := cells_at f3 8 _ rfl; have n4 := cells_at f4 4 _ rfl; have n5 := cells_at f4 5 _ rfl; have n6 := cells_at f4 6 _ rfl; have n7 := cells_at f4 7 _ rfl; have n8 := cells_at f4 8 _ rfl; clear f3 f4 b3) | (go_at_call 29; refine (HRX.out _ (Below.refl _ _)).mono ?_; clear HRX; rintro e w2 ⟨rfl, b2⟩; have f2 := (b2.block _ lY).trans HE.out.2; have k4 := cells_at f2 4 _ rfl; have k5 := cells_at f2 5 _ rfl; have k6 := cells_at f2 6 _ rfl; have k7 := cells_at f2 7 _ rfl; have k8 := cells_at f2 8 _ rfl; have B2 := hide b2; clear f2 b2) | (go_at_call 30; refine (HSM.out _ B3.out).mono ?_; clear HSM; rintro e w4 ⟨rfl, b4⟩; have B4 := hide (trans_v B3.out b4); clear b4))
          go_roundw
          case rel => exact ⟨k + 1, by omega, by go_num, HZ.out rfl, trans_v HBU.out B4.out⟩
          case measure => simp [intOf]; omega
    · have HZ := hide (show sameB l r = true from sameB_yes HL.out fun j h1 h2 h3 => hz j h1 h2 (by omega))
      clear hz
      go_wp2
      go_ret
      exact ⟨by rw [HZ.out]; rfl, hbel⟩
end Go.Proofs.YtcedpdneanjbkaaGreatDoor

/- EventSame answers true. -/
namespace Go.Proofs.YtcedpdneanjbkaaGreatDoor
open Go.RowKit

set_option maxRecDepth 100000 in
theorem eventSame_walk (l r : List Evn) (w : World) (n m : Nat) (sa sb : Value) (hT : Tabs w) (ha : EvsAt w w.heap.size n sa l) (hb : EvsAt w w.heap.size m sb r) :
    Calls Tryz.prog 6 #[sa, sb] w fun e w' => e = .returned (.bool true) ∧ Below w.heap.size w w' := by
  have HS := hide (same6_k l r w n m sa sb hT ha hb)
  have HR := hide (fun (U : World) (b : Below w.heap.size w U) => refSame6_k l r U n m sa sb ((ha.below b).up b.size) ((hb.below b).up b.size))
  have HA := hide (fun (U : World) (b : Below w.heap.size w U) => alive6_k U (hT.below b))
  clear ha hb hT
  generalize sameB l r = z at *
  go_enter Tryz.func6, Tryz.ntmps6
  go_wp2_with (first
    | (go_at_call 19; refine HS.out.mono ?_; clear HS; rintro e w2 ⟨rfl, b2⟩; have B2 := hide b2; clear b2)
    | (go_at_call 13; refine (HR.out _ B2.out).mono ?_; clear HR; rintro e w3 ⟨rfl, b3⟩; have B3 := hide (trans_v B2.out b3); clear b3)
    | (go_at_call 14; refine (HA.out _ B3.out).mono ?_; clear HA; rintro e w4 ⟨rfl, b4⟩; have B4 := hide (trans_v B3.out b4); clear b4))
  go_ret
  exact ⟨rfl, B4.out⟩
end Go.Proofs.YtcedpdneanjbkaaGreatDoor

/- EventSame holds of every input within the bulk. -/
namespace Go.Proofs.YtcedpdneanjbkaaGreatDoor.eventSame
open Go.ChangeShapes Go.WideShapes Go.ChangeAt Go.RowKit
open Go.ChangeMaps (open_string)

set_option maxRecDepth 100000 in
theorem contract (H : Type) (enc : TypeId × Value → H) (W : World) (base : Nat) (args : Array Value) (ds gs : List (DataW H)) (before : List MemPlace)
    (hval : ∀ (j : Nat) t v, Tryz.f6.params[j]? = some t → args[j]? = some v → Value.okWide Tryz.prog W .any base t v)
    (hW : DataW.Whole enc Tryz.prog Tryz.f6.params.toList Rows.eventSameSpec.vars false W args.toList ds gs before) (hL : laidMetH Tryz.prog laidE W) (hk : Rows.uptoBulkAll (ds ++ gs) ≤ 1048576) :
    Calls Tryz.prog 6 args W fun e W' => ∃ v, e = .returned v ∧ Rows.eventSameSpec.post enc Tryz.prog Tryz.f6 false true false false W args v W' := by
  have hW' := hW
  obtain ⟨p, q, hA0, hV, rfl, hfz, hnd⟩ := hW
  have hA : DataW.TrodAll enc Tryz.prog W 0 (fun _ => true) true Tryz.f6.params.toList args.toList ds p := hA0
  rw [Tryz.params6] at hA hval
  obtain ⟨v0, vs0, d0, ds0, p0, q0, hargs, rfl, rfl, h0, r0⟩ := trodAll_cons hA
  obtain ⟨v1, vs1, d1, ds1, p1, q1, rfl, rfl, rfl, h1, r1⟩ := trodAll_cons r0
  obtain ⟨rfl, rfl, rfl⟩ := trodAll_nil r1
  obtain rfl : args = #[v0, v1] := by cases args; simp_all
  obtain ⟨rfl, rfl⟩ := trodVars_none hV
  simp only [List.append_nil, Rows.uptoBulkAll] at hk
  obtain ⟨a0, len0, cap0, rfl⟩ := okWide_slice Tryz.underlying22 (hval 0 22 v0 rfl rfl)
  have k0 := h0
  have lt0 : ∀ x ∈ p0, x.block < W.heap.size := by obtain ⟨m, hm⟩ := k0; exact DataW.trod_lt m _ _ _ hm
  obtain ⟨fuel0, hf0⟩ := h0
  obtain ⟨l0, hl0, hI0, hs0⟩ := open_evs hf0 (by omega)
  subst hl0
  obtain ⟨a1, len1, cap1, rfl⟩ := okWide_slice Tryz.underlying22 (hval 1 22 v1 rfl rfl)
  have k1 := h1
  have lt1 : ∀ x ∈ p1, x.block < W.heap.size := by obtain ⟨m, hm⟩ := k1; exact DataW.trod_lt m _ _ _ hm
  obtain ⟨fuel1, hf1⟩ := h1
  obtain ⟨l1, hl1, hI1, hs1⟩ := open_evs hf1 (by omega)
  subst hl1
  clear hA0
  simp only [List.append_nil] at hW'
  refine (eventSame_walk l0 l1 W (fuel0 + 2) (fuel1 + 2) _ _ (tabsE_of_laid hL) hI0 hI1).mono fun e W' ⟨he, bel⟩ => ?_
  subst he
  exact ⟨_, rfl, _, _, _, [], _, [], hW', trodAll_mk1 (shut_bool Tryz.underlying4 _), trodAll_cons_mk (Below.trod laidOut (by kernel_rfl) (of_decide_eq_true (by kernel_rfl)) k0 bel lt0) (trodAll_cons_mk (Below.trod laidOut (by kernel_rfl) (of_decide_eq_true (by kernel_rfl)) k1 bel lt1) trodAll_mk0), rfl, bel.frame _, fun h => by cases h⟩

theorem laid_met (os : Os) : laidMet Tryz.prog Rows.eventSameUptoRow.laid ((laidWorldE os).forCall (fun _ _ => 0) ⟨#[], #[.slice none 0 0, .slice none 0 0], []⟩).memory :=
  laidMet_of_run' 8 (by kernel_rfl) (by kernel_rfl)
theorem reads (os : Os) {H : Type} (enc : TypeId × Value → H) : ∃ places, DataW.whole enc Tryz.prog ((laidWorldE os).forCall (fun _ _ => 0) ⟨#[], #[.slice none 0 0, .slice none 0 0], []⟩).memory Tryz.f6.params.toList Rows.eventSameSpec.vars false #[Value.slice none 0 0, Value.slice none 0 0].toList 8 = some ([.nil, .nil], [], places) :=
  ⟨[], by kernel_rfl⟩

set_option maxRecDepth 100000 in
theorem liftedUpto (os : Os) (started : os.Started) (H : Type) (enc : TypeId × Value → H) (F : Stop.Interp) :
    ReturnsInHanded {} Tryz.checked os 6 .any ((Rows.OpenSpec.upto Rows.eventSameSpec).preRow enc Tryz.prog Tryz.f6 Rows.eventSameUptoRow.domain false Rows.eventSameUptoRow.laid) (((Rows.OpenSpec.upto Rows.eventSameSpec).at F).post enc Tryz.prog Tryz.f6 false true false false) := by
  obtain ⟨places, hx⟩ := reads os enc
  refine returnsInHanded_of_row (C := Tryz.checked) (s := Rows.OpenSpec.upto Rows.eventSameSpec) own started (by kernel_rfl) Tryz.func6
    (witness_row_at (enc := enc) (C := Tryz.checked) false (laidWorldE os) #[.slice none 0 0, .slice none 0 0] rfl (by kernel_rfl) (by kernel_rfl) (by kernel_rfl)
      (OpenSpec.preRow_of_cond 8 hx (by kernel_rfl) (fun k hk => by cases hk; kernel_rfl) (by kernel_rfl) (laid_met os))) ?_
  intro W base args ds gs before hval hW _ hcond _ hL _ _
  exact contract H enc W base args ds gs before hval hW hL (of_decide_eq_true (hcond _ rfl))

theorem saidUpto : Rows.EventSameUptoSaid :=
  OpenClaim.holds_of_cond 6 Tryz.f6 rfl rfl rfl rfl rfl rfl rfl ⟨rfl, rfl, rfl, rfl, rfl⟩ rfl rfl rfl rfl rfl (by kernel_rfl) Tryz.func6 (by kernel_rfl)
    (of_decide_eq_true (by kernel_rfl)) (by unfold Func.isWrapper; first | (rw [if_pos (by decide +kernel)]; kernel_rfl) | (rw [if_neg (by decide +kernel)]; exact ⟨rfl, rfl⟩))
    (fun os started H enc _ F => by rw [OpenClaim.pre_eq_preRow]; exact liftedUpto os started H enc F)

theorem plain (f : FuncId) (fn : Func) (hf : Tryz.pinned.checked.prog.funcNamed Rows.eventSameRow.func = some f) (hfn : Tryz.pinned.checked.prog.funcs[f]? = some fn) :
    true = Tryz.pinned.checked.prog.looks [] ∧ ∀ (j : Nat) t, fn.params[j]? = some t → Tryz.pinned.checked.prog.wantsStandIn t = false := by
  obtain rfl : f = 6 := Option.some.inj ((show Tryz.prog.funcNamed Rows.eventSameRow.func = some 6 by kernel_rfl).symm.trans hf) |>.symm
  obtain rfl : fn = Tryz.f6 := (Option.some.inj (Tryz.func6.symm.trans hfn)).symm
  refine ⟨by kernel_rfl, fun j t ht => ?_⟩
  rw [Tryz.params6] at ht
  obtain rfl : t = 22 := by simpa using Array.mem_of_getElem? ht
  exact (show Tryz.prog.wantsStandIn 22 = false by kernel_rfl)

theorem cardUpto : Rows.EventSameUptoCardSaid :=
  Claim7.holds_tied_plain_at .later [] _ _ _ _ saidUpto (fun _ h => by cases h) (by kernel_rfl) (fun _ h => by cases h) eventSameUpto_row_tie rfl ⟨rfl, rfl⟩ (by kernel_rfl) rfl plain (by kernel_rfl)
end Go.Proofs.YtcedpdneanjbkaaGreatDoor.eventSame
namespace Go.Proofs.YtcedpdneanjbkaaGreatDoor
theorem eventSame_upto : Rows.EventSameUptoCardSaid := eventSame.cardUpto
#print axioms eventSame_upto
end Go.Proofs.YtcedpdneanjbkaaGreatDoor
