/- The statement's makes answers true. -/
import Derived.Test.YtgglommnipbagaaGreatDoorGMade
import Derived.Test.YtgglommnipbagaaGreatDoorZVAlive
import Derived.Test.YtgglommnipbagaaGreatDoorZTLaid
import Derived.Test.YtgglommnipbagaaGreatDoorGOpens
import Derived.ChangeMaps5
namespace Go.Proofs.YtgglommnipbagaaGreatDoor
open Go.RowKit

set_option maxRecDepth 100000 in
set_option maxHeartbeats 16000000 in
theorem makes_k (its : List Vl) (w : World) (n : Nat) (sl : Value) (hT : Tabs w) (hi : ItemsAt w w.heap.size (n + 2) sl its) (hsz : (⟨5, 0, 0, ⟨#[]⟩, its⟩ : Vl).size ≤ 1000000000) :
    Calls Tryz.prog 19 #[sl] w fun e w' => e = .returned (.bool true) ∧ Below w.heap.size w w' := by
  have hln : its.length ≤ 1000000000 := by have := size_len ⟨5, 0, 0, ⟨#[]⟩, its⟩; simp only at this; omega
  have hszx : ∀ x ∈ its, x.size ≤ 1000000000 := fun x hx => by have := Vl.size_item (v := ⟨5, 0, 0, ⟨#[]⟩, its⟩) hx; omega
  have hsz6 : (⟨6, 0, 0, ⟨#[]⟩, its⟩ : Vl).size ≤ 1000000000 := by rw [Vl.size_eq] at hsz ⊢; exact hsz
  have hsz7 : (⟨7, 0, 0, ⟨#[]⟩, its⟩ : Vl).size ≤ 1000000000 := by rw [Vl.size_eq] at hsz ⊢; exact hsz
  have HTu := hide (fun (U : World) (o : Value) (b : Below w.heap.size w U) (ho : ItemsAt U U.heap.size (n + 2) o its) => tupleD_k its U n o (hT.below b) ho hsz)
  have HLi := hide (fun (U : World) (o : Value) (b : Below w.heap.size w U) (ho : ItemsAt U U.heap.size (n + 2) o its) => listD_k its U n o (hT.below b) ho hsz6)
  have HSe := hide (fun (U : World) (o : Value) (b : Below w.heap.size w U) (ho : ItemsAt U U.heap.size (n + 2) o its) => setD_k its U n o (hT.below b) ho hln hsz7)
  have HM5 := hide (fun (U : World) (b : Below w.heap.size w U) => madeD_k 5 (.inl rfl) its U n sl ((hi.below b).up b.size) hszx hln)
  have HM6 := hide (fun (U : World) (b : Below w.heap.size w U) => madeD_k 6 (.inr (.inl rfl)) its U n sl ((hi.below b).up b.size) hszx hln)
  have HM7 := hide (fun (U : World) (b : Below w.heap.size w U) => madeD_k 7 (.inr (.inr rfl)) its U n sl ((hi.below b).up b.size) hszx hln)
  have hxl : (madeR 5 its).1.items.length ≤ 1000000000 := by
    have h6 : madeItems 5 its = its := rfl
    unfold madeR madeV
    rw [h6]
    cases its.all rightV <;> cases rightV ⟨5, 0, 0, ⟨#[]⟩, its⟩ <;> simp <;> omega
  have hyl : (madeR 6 its).1.items.length ≤ 1000000000 := by
    have h6 : madeItems 6 its = its := rfl
    unfold madeR madeV
    rw [h6]
    cases its.all rightV <;> cases rightV ⟨6, 0, 0, ⟨#[]⟩, its⟩ <;> simp <;> omega
  generalize madeR 5 its = m5 at HTu HM5 hxl
  generalize madeR 6 its = m6 at HLi HM6 hyl
  generalize madeR 7 its = m7 at HSe HM7
  obtain ⟨xv, p⟩ := m5
  obtain ⟨yv, q⟩ := m6
  obtain ⟨zv, r⟩ := m7
  dsimp only at HTu HM5 HLi HM6 HSe HM7 hyl hxl
  have HI := hide hi
  have HZ := hide hszx
  obtain ⟨a, c, rfl, hla⟩ := hi.len
  unfold maxLen at hla
  clear hi hT hszx hsz hsz6 hsz7
  go_enter Tryz.func19, Tryz.ntmps19
  go_wp2
  go_loopw [3, 4] (fun o i wr => ∃ k : Nat, k ≤ its.length ∧ i = .int .i64 k ∧ OwnM wr w.heap.size (n + 1) o (its.take k) ∧ Below w.heap.size w wr) (fun _ i _ => its.length - (intOf i).toNat)
  case atStart => exact ⟨0, Nat.zero_le _, rfl, OwnM.nil _ _ _, Below.refl _ _⟩
  case round =>
    obtain ⟨k, hk, rfl, hO, hbel⟩ := hrel
    have hbs := hbel.size
    by_cases hlt : k < its.length
    · obtain ⟨b1, o1, s1, rfl, g1, p0, p1, p2, p3, p4, p5, p6⟩ := (HI.out.below hbel).item k hlt
      have l1 : b1 < wr.heap.size := by omega
      have HC := hide (refCopy_k its[k] wr (n + 1) s1 (HZ.out _ (List.getElem_mem hlt)) (p5.up hbs))
      have HP := hide (fun (U : World) (s : Value) (b : Below wr.heap.size wr U) (hx : ItemsIn U (fun b => (b < w.heap.size ∨ wr.heap.size ≤ b) ∧ b < U.heap.size) (n + 1) s its[k].items) => OwnM.push (ty := 22) hO hbs b hx p6 (by rw [List.length_take]; omega))
      have HS1 := hide (fun (U : World) (b : Below wr.heap.size wr U) => (show ItemsIn U (fun b => (b < w.heap.size ∨ wr.heap.size ≤ b) ∧ b < U.heap.size) (n + 1) s1 its[k].items from ItemsIn.kept (fun _ _ _ => rfl) (fun b' hb => ⟨.inl hb.2, by have := b.size; omega⟩) (p5.below (b.mono hbs)).lo))
      have HTK := hide (List.take_succ_eq_append_getElem hlt)
      obtain ⟨xx1, yy1, rfl, _⟩ := p5.len
      have HB2 := hide hbel
      clear p5 p6 hbel g1 hO
      generalize its[k].items = xi at *
      generalize its[k] = x at *
      go_wp2_with (first
        | (go_at_call 25; refine HC.out.mono ?_; clear HC; rintro e w2 ⟨s2, rfl, i2, _, h2, b2⟩; obtain ⟨v3, w3, hrun, o3, b3⟩ := HP.out w2 s2 b2 (by (rcases h2 with rfl | h2; (exact HS1.out w2 b2); (exact h2.kept (fun _ _ _ => rfl) (fun b hb => ⟨.inr hb.1, hb.2⟩)))); have HR := hide hrun; have O3 := hide o3; have B3 := hide ((HB2.out.trans (b2.mono hbs)).trans b3); obtain ⟨sa2, sc2, rfl, _⟩ := i2.len; clear hrun o3 b3 HP h2 b2 HS1 i2)
        | (at_builtin; refine Lib.wpList_append_run _ rfl (.tmp 29) (.tmp 35) 22 22 rfl _ _ rfl rfl _ _ HR.out ?_))
      go_roundw
      case rel => exact ⟨k + 1, by omega, by go_num, by rw [HTK.out]; exact O3.out, B3.out⟩
      case measure => simp [intOf]; omega
    · rw [List.take_of_length_le (by omega)] at hO
      have hin := (hO.items (by unfold maxLen; omega)).at (B := wr.heap.size) (fun _ h => h)
      obtain ⟨ia, ic, rfl, _⟩ := hin.len
      obtain ⟨X, hX⟩ : ∃ X, X = wr := ⟨_, rfl⟩
      subst hX
      have HIN := hide hin
      have HBX := hide hbel
      have HIX := hide ((HI.out.below hbel).up hbs)
      clear hO hin hbel
      go_wp2_with (go_at_call 44; refine (HTu.out _ _ HBX.out HIN.out).mono ?_; clear HTu; rintro e w1 ⟨s1, rfl, i1, r1, b1⟩; obtain ⟨a1, c1, rfl, _⟩ := i1.len; have I1 := hide i1; have R1 := hide r1; have B1 := hide b1; clear i1 r1 b1)
      obtain ⟨W1, hW1⟩ : ∃ W, w1.alloc (.cells (vcells xv (.slice a1 xv.items.length c1)) 25) = W := ⟨_, rfl⟩
      rw [hW1]
      have BW1 : Hid (Below w1.heap.size w1 W1) := hide (by rw [← hW1]; exact alloc_v (Below.refl _ _) _)
      have LI1 : Hid (Lies W1 w1.heap.size xv (.slice a1 xv.items.length c1)) := hide (by rw [← hW1]; exact Lies.new _ _ _)
      have BX1 := hide (trans_v B1.out BW1.out)
      clear hW1
      go_wp2_with (go_at_call 45; refine (HLi.out _ _ (trans_v HBX.out BX1.out) ((HIN.out.below BX1.out).up BX1.out.size)).mono ?_; clear HLi; rintro e w2 ⟨s2, rfl, i2, r2, b2⟩; obtain ⟨a2, c2, rfl, _⟩ := i2.len; have I2 := hide i2; have R2 := hide r2; have B2 := hide b2; clear i2 r2 b2)
      obtain ⟨W2, hW2⟩ : ∃ W, w2.alloc (.cells (vcells yv (.slice a2 yv.items.length c2)) 25) = W := ⟨_, rfl⟩
      rw [hW2]
      have BW2 : Hid (Below w2.heap.size w2 W2) := hide (by rw [← hW2]; exact alloc_v (Below.refl _ _) _)
      have LI2 : Hid (Lies W2 w2.heap.size yv (.slice a2 yv.items.length c2)) := hide (by rw [← hW2]; exact Lies.new _ _ _)
      have BX2 := hide (trans_v BX1.out (trans_v B2.out BW2.out))
      clear hW2
      go_wp2_with (go_at_call 46; refine (HSe.out _ _ (trans_v HBX.out BX2.out) ((HIN.out.below BX2.out).up BX2.out.size)).mono ?_; rintro e w3 ⟨s3, rfl, i3, b3⟩; obtain ⟨a3, c3, rfl, _⟩ := i3.len; have I3 := hide i3; have B3 := hide b3; clear i3 b3)
      obtain ⟨W3, hW3⟩ : ∃ W, w3.alloc (.cells (vcells zv (.slice a3 zv.items.length c3)) 25) = W := ⟨_, rfl⟩
      rw [hW3]
      have BW3 : Hid (Below w3.heap.size w3 W3) := hide (by rw [← hW3]; exact alloc_v (Below.refl _ _) _)
      have LI3 : Hid (Lies W3 w3.heap.size zv (.slice a3 zv.items.length c3)) := hide (by rw [← hW3]; exact Lies.new _ _ _)
      have BX3 := hide (trans_v BX2.out (trans_v B3.out BW3.out))
      clear hW3
      go_wp2_with (go_at_call 47; refine (HM5.out _ (trans_v HBX.out BX3.out)).mono ?_; clear HM5; rintro e w4 ⟨s4, rfl, i4, b4⟩; obtain ⟨a4, c4, rfl, _⟩ := i4.len; have I4 := hide i4; have B4 := hide b4; clear i4 b4)
      obtain ⟨W4, hW4⟩ : ∃ W, w4.alloc (.cells (vcells xv (.slice a4 xv.items.length c4)) 25) = W := ⟨_, rfl⟩
      rw [hW4]
      have BW4 : Hid (Below w4.heap.size w4 W4) := hide (by rw [← hW4]; exact alloc_v (Below.refl _ _) _)
      have LI4 : Hid (Lies W4 w4.heap.size xv (.slice a4 xv.items.length c4)) := hide (by rw [← hW4]; exact Lies.new _ _ _)
      have BX4 := hide (trans_v BX3.out (trans_v B4.out BW4.out))
      clear hW4
      go_wp2_with (go_at_call 47; refine (HM6.out _ (trans_v HBX.out BX4.out)).mono ?_; clear HM6; rintro e w5 ⟨s5, rfl, i5, b5⟩; obtain ⟨a5, c5, rfl, _⟩ := i5.len; have I5 := hide i5; have B5 := hide b5; clear i5 b5)
      obtain ⟨W5, hW5⟩ : ∃ W, w5.alloc (.cells (vcells yv (.slice a5 yv.items.length c5)) 25) = W := ⟨_, rfl⟩
      rw [hW5]
      have BW5 : Hid (Below w5.heap.size w5 W5) := hide (by rw [← hW5]; exact alloc_v (Below.refl _ _) _)
      have LI5 : Hid (Lies W5 w5.heap.size yv (.slice a5 yv.items.length c5)) := hide (by rw [← hW5]; exact Lies.new _ _ _)
      have BX5 := hide (trans_v BX4.out (trans_v B5.out BW5.out))
      clear hW5
      go_wp2_with (go_at_call 47; refine (HM7.out _ (trans_v HBX.out BX5.out)).mono ?_; clear HM7; rintro e w6 ⟨s6, rfl, i6, b6⟩; obtain ⟨a6, c6, rfl, _⟩ := i6.len; have I6 := hide i6; have B6 := hide b6; clear i6 b6)
      obtain ⟨W6, hW6⟩ : ∃ W, w6.alloc (.cells (vcells zv (.slice a6 zv.items.length c6)) 25) = W := ⟨_, rfl⟩
      rw [hW6]
      have BW6 : Hid (Below w6.heap.size w6 W6) := hide (by rw [← hW6]; exact alloc_v (Below.refl _ _) _)
      have LI6 : Hid (Lies W6 w6.heap.size zv (.slice a6 zv.items.length c6)) := hide (by rw [← hW6]; exact Lies.new _ _ _)
      have BX6 := hide (trans_v BX5.out (trans_v B6.out BW6.out))
      clear hW6
      have K5 := hide (trans_v B6.out BW6.out)
      have K4 := hide (trans_v (trans_v B5.out BW5.out) K5.out)
      have K3 := hide (trans_v (trans_v B4.out BW4.out) K4.out)
      have K2 := hide (trans_v (trans_v B3.out BW3.out) K3.out)
      have K1 := hide (trans_v (trans_v B2.out BW2.out) K2.out)
      have up6 : ∀ {i : World} {S : Nat → Prop} {sl : Value} {l : List Vl}, Below i.heap.size i W6 → ItemsIn i S (n + 2) sl l → (∀ b, S b → b < i.heap.size) → ItemsAt W6 W6.heap.size (n + 2) sl l := fun hb h hS => ((h.at hS).below hb).up hb.size
      have T1 := hide (up6 (trans_v BW1.out K1.out) I1.out (fun _ h => h.2))
      have J1 := hide (LI1.out.later K1.out)
      have T2 := hide (up6 (trans_v BW2.out K2.out) I2.out (fun _ h => h.2))
      have J2 := hide (LI2.out.later K2.out)
      have T3 := hide (up6 (trans_v BW3.out K3.out) I3.out (fun _ h => h.2))
      have J3 := hide (LI3.out.later K3.out)
      have T4 := hide (up6 (trans_v BW4.out K4.out) I4.out (fun _ h => h.2))
      have J4 := hide (LI4.out.later K4.out)
      have T5 := hide (up6 (trans_v BW5.out K5.out) I5.out (fun _ h => h.2))
      have J5 := hide (LI5.out.later K5.out)
      have T6 := hide (up6 BW6.out I6.out (fun _ h => h.2))
      have J6 := hide (LI6.out)
      clear up6
      have HA1 := hide (alike_self xv W6 (n + 2) (n + 2) _ _ T1.out T4.out)
      obtain ⟨d0, d1, d2, d3, d4⟩ := J1.out.cells
      obtain ⟨f0, f1, f2, f3, f4⟩ := J4.out.cells
      go_wp2_with (first
        | (go_at_call 18; refine (num4_k _ _).mono ?_; rintro e wq ⟨rfl, rfl⟩)
        | (go_at_call 13; refine HA1.out.mono ?_; clear HA1 d0 d1 d2 d3 d4 f0 f1 f2 f3 f4; rintro e w7 ⟨rfl, b7⟩; have E7 := hide b7; clear b7; have HA2 := hide (alike_self yv w7 (n + 2) (n + 2) _ _ ((T2.out.below E7.out).up E7.out.size) ((T5.out.below E7.out).up E7.out.size)); obtain ⟨d0, d1, d2, d3, d4⟩ := (J2.out.later E7.out).cells; obtain ⟨f0, f1, f2, f3, f4⟩ := (J5.out.later E7.out).cells)
        | (go_at_call 13; refine HA2.out.mono ?_; clear HA2 d0 d1 d2 d3 d4 f0 f1 f2 f3 f4; rintro e w8 ⟨rfl, b8⟩; have E8 := hide b8; clear b8; have HA3 := hide (alike_self zv w8 (n + 2) (n + 2) _ _ ((T3.out.below (trans_v E7.out E8.out)).up (trans_v E7.out E8.out).size) ((T6.out.below (trans_v E7.out E8.out)).up (trans_v E7.out E8.out).size)); obtain ⟨d0, d1, d2, d3, d4⟩ := (J3.out.later (trans_v E7.out E8.out)).cells; obtain ⟨f0, f1, f2, f3, f4⟩ := (J6.out.later (trans_v E7.out E8.out)).cells)
        | (go_at_call 13; refine HA3.out.mono ?_; clear HA3 d0 d1 d2 d3 d4 f0 f1 f2 f3 f4; rintro e w9 ⟨rfl, b9⟩; have E9 := hide b9; clear b9))
      have EY := hide (trans_v (trans_v E7.out E8.out) E9.out)
      have BXY := hide (trans_v BX6.out EY.out)
      have hXY : X.heap.size ≤ w9.heap.size := BXY.out.size
      have G1 := hide (J1.out.later EY.out)
      have G2 := hide (J2.out.later EY.out)
      have G6 := hide (J6.out.later EY.out)
      have KY1 := hide (trans_v K1.out EY.out)
      have KY2 := hide (trans_v K2.out EY.out)
      have sz1 : X.heap.size ≤ w1.heap.size := B1.out.size
      have sz2 : w1.heap.size < W1.heap.size := LI1.out.lt
      have sz3 : W1.heap.size ≤ w2.heap.size := B2.out.size
      have sz4 : w2.heap.size < W2.heap.size := LI2.out.lt
      have sz5 : W2.heap.size ≤ w6.heap.size := Nat.le_trans (trans_v (trans_v (trans_v B3.out BW3.out) (trans_v B4.out BW4.out)) (trans_v B5.out BW5.out)).size B6.out.size
      have sz6 : w6.heap.size < w9.heap.size := G6.out.lt
      have HGX := hide (fun (h : 0 < xv.items.length) => R1.out.some h)
      have RX : Hid (RowOwn w9 X.heap.size (.slice a1 xv.items.length c1) xv.items.length) := hide (R1.out.far (fun g _ hg => (trans_v BW1.out KY1.out).block g hg) (Nat.le_refl _))
      have IC : Hid (ItemsIn w9 (fun b => W2.heap.size ≤ b ∧ b < w9.heap.size) (n + 2) (.slice a6 zv.items.length c6) zv.items) := hide (I6.out.kept (fun b o hb => World.cell?_of_block ((trans_v BW6.out EY.out).block b hb.2)) (fun b hb => ⟨by have := hb.1; have := (trans_v (trans_v (trans_v B3.out BW3.out) (trans_v B4.out BW4.out)) (trans_v B5.out BW5.out)).size; omega, by have := (trans_v BW6.out EY.out).size; omega⟩))
      clear T1 T2 T3 T4 T5 T6 J1 J2 J3 J4 J5 J6 LI1 LI2 LI3 LI4 LI5 LI6 I1 I2 I3 I4 I5 I6 E7 E8 E9
      go_wp2
      go_loopw [17] (fun i wr => ∃ k : Nat, k ≤ its.length ∧ i = .int .i64 k ∧ Below w9.heap.size w9 wr) (fun i _ => its.length - (intOf i).toNat)
      case atStart => exact ⟨0, Nat.zero_le _, rfl, Below.refl _ _⟩
      case round =>
        obtain ⟨k, hk, rfl, hbel⟩ := hrel
        rcases (show (k < its.length ∧ p = 0) ∨ (k < its.length ∧ ¬ p = 0) ∨ ¬ k < its.length from by omega) with ⟨hlt, hp⟩ | ⟨hlt, hp⟩ | hlt
        · obtain ⟨b1, o1, s1, rfl, g1, p0, p1, p2, p3, p4, p5, _⟩ := (HIN.out.below (trans_v BXY.out hbel)).item k hlt
          obtain ⟨b2, o2, s2, rfl, g2, q0, q1, q2, q3, q4, q5, _⟩ := (HIX.out.below (trans_v BXY.out hbel)).item k hlt
          have hs := hbel.size
          have HC := hide (fun (q : Wv wr) => alike_self its[k] q.val (n + 1) (n + 1) s1 s2 ((p5.below (q.below.mono (by omega))).up (by have := q.below.size; omega)) ((q5.below (q.below.mono (by omega))).up (by have := q.below.size; omega)))
          have hk0 : (0 : Int) ≤ (k : Int) := by omega
          have hk1 : (k : Int) < (its.length : Int) := by omega
          have hpt : (p == 0) = true := by rw [hp]; rfl
          have hany := Wv.any wr
          have u0 := fun q : Wv wr => q.cell p0
          have u1 := fun q : Wv wr => q.cell p1
          have u2 := fun q : Wv wr => q.cell p2
          have u3 := fun q : Wv wr => q.cell p3
          have u4 := fun q : Wv wr => q.cell p4
          have v0 := fun q : Wv wr => q.cell q0
          have v1 := fun q : Wv wr => q.cell q1
          have v2 := fun q : Wv wr => q.cell q2
          have v3 := fun q : Wv wr => q.cell q3
          have v4 := fun q : Wv wr => q.cell q4
          obtain ⟨xx1, yy1, rfl, _⟩ := p5.len
          obtain ⟨xx2, yy2, rfl, _⟩ := q5.len
          have HB3 := hide hbel
          clear p5 q5 hbel g1 g2 p0 p1 p2 p3 p4 q0 q1 q2 q3 q4 hp
          generalize its[k].items = xi at *
          generalize its[k] = x at *
          go_wp2
          refine wp_region_grown (by kernel_rfl) (by kernel_rfl) ?_
          repeat (go_big_quiet_step ((go_at_call 13; exact Wv.calls _ (HC.out _))))
          refine wpQuiet_nil ?_
          intro w1 hw'
          obtain ⟨q, rfl⟩ := hw'
          go_wp2
          go_roundw
          case rel => exact ⟨k + 1, by omega, by go_num, trans_v HB3.out q.below⟩
          case measure => simp [intOf]; omega
        all_goals (try (have hpb : (p == 0) = false := by simpa using hp))
        all_goals (try clear hp)
        all_goals (
          have HM0 := hide (MidK.later (A := w1.heap.size) (MidK.start BXY.out) hbel hXY)
          have RX0 := hide (RX.out.far (fun g _ hg => hbel.block g hg) (Nat.le_refl _))
          clear hbel
          go_wp2
          obtain ⟨wo, hwo⟩ : ∃ wo, wo = wr := ⟨_, rfl⟩
          subst hwo
          go_loopw [18] (fun i wr => ∃ k : Nat, k ≤ xv.items.length ∧ i = .int .i64 k ∧ MidK X.heap.size w1.heap.size X w9 wr ∧ RowOwn wr X.heap.size (.slice a1 xv.items.length c1) xv.items.length) (fun i _ => xv.items.length - (intOf i).toNat)
          case atStart => exact ⟨0, Nat.zero_le _, rfl, HM0.out, RX0.out⟩
          case round =>
            obtain ⟨kx, hkx, rfl, hM, hR⟩ := hrel
            have gx : Lies wr w1.heap.size xv (.slice a1 xv.items.length c1) := (hM.2.1 w1.heap.size (Nat.le_refl _) (by omega)).trans G1.out
            obtain ⟨x0, x1, x2, x3, x4⟩ := gx.cells
            clear gx
            by_cases hltx : kx < xv.items.length
            · obtain ⟨g, rfl, hg1, hg2⟩ := HGX.out (by omega)
              obtain ⟨⟨u0, e0⟩, f0⟩ := hR.cell (kx * 5) (by omega)
              obtain ⟨⟨u1, e1⟩, f1⟩ := hR.cell (kx * 5 + 1) (by omega)
              obtain ⟨⟨u2, e2⟩, f2⟩ := hR.cell (kx * 5 + 2) (by omega)
              obtain ⟨⟨u3, e3⟩, f3⟩ := hR.cell (kx * 5 + 3) (by omega)
              obtain ⟨⟨u4, e4⟩, f4⟩ := hR.cell (kx * 5 + 4) (by omega)
              have HP := hide (And.intro (((((hM.put hg1 (.inl hg2) (kx * 5) (.int .i64 77)).put hg1 (.inl hg2) (kx * 5 + 1) (.int .i64 0)).put hg1 (.inl hg2) (kx * 5 + 2) (.int .i64 0)).put hg1 (.inl hg2) (kx * 5 + 3) (.string ⟨#[]⟩)).put hg1 (.inl hg2) (kx * 5 + 4) (.slice none 0 0)) (((((hR.set (kx * 5) (.int .i64 77)).set (kx * 5 + 1) (.int .i64 0)).set (kx * 5 + 2) (.int .i64 0)).set (kx * 5 + 3) (.string ⟨#[]⟩)).set (kx * 5 + 4) (.slice none 0 0)))
              have hk0 : (0 : Int) ≤ (kx : Int) := by omega
              have hk1 : (kx : Int) < (xv.items.length : Int) := by omega
              clear hM hR
              go_wp2
              go_roundw
              case rel => exact ⟨kx + 1, by omega, by go_num, HP.out.1, HP.out.2⟩
              case measure => simp [intOf]; omega
            · have HO0 : Hid (OwnY X.heap.size W2.heap.size w2.heap.size w9 wr (.slice a2 yv.items.length c2) yv.items.length) := hide (R2.out.ownY (fun g h1 h2 => (hM.2.1 g (by omega) (by omega)).trans ((trans_v BW2.out KY2.out).block g h2)) (by omega) (Nat.le_refl _) (by omega))
              have HM1 := hide (hM.mono (show w1.heap.size ≤ W2.heap.size by omega))
              have HL1 : Hid (Lies wr w2.heap.size yv (.slice a2 yv.items.length c2)) := hide ((hM.2.1 w2.heap.size (by omega) (by omega)).trans G2.out)
              clear hM hR
              go_wp2
              clear x0 x1 x2 x3 x4
              obtain ⟨wo2, hwo2⟩ : ∃ wo, wo = wr := ⟨_, rfl⟩
              subst hwo2
              go_loopw [19] (fun i wr => ∃ (k : Nat) (s : Value), k ≤ 20 ∧ i = .int .i64 k ∧ OwnY X.heap.size W2.heap.size w2.heap.size w9 wr s (yv.items.length + k) ∧ MidK X.heap.size W2.heap.size X w9 wr ∧ Lies wr w2.heap.size yv s) (fun i _ => 20 - (intOf i).toNat)
              case atStart => exact ⟨0, _, by omega, rfl, HO0.out, HM1.out, HL1.out⟩
              case round =>
                obtain ⟨ky, sy, hky, rfl, hO, hM, hL⟩ := hrel
                obtain ⟨y0, y1, y2, y3, y4⟩ := hL.cells
                by_cases hlty : ky < 20
                · obtain ⟨_, w', hrun, ⟨gy, cy, rfl⟩, O6, M6, hy⟩ := hO.push hM hXY (by omega) (by omega) 22
                  have L6 : Lies w' w2.heap.size yv sy := hy.trans hL
                  have z4 := L6.cells.2.2.2.2
                  have z5 := frozen_at L6 4
                  have HRN := hide hrun
                  have HP := hide (And.intro (O6.put 4 (.slice (some ⟨gy, 0, none⟩) (yv.items.length + ky + 1) cy)) (And.intro (M6.put (show X.heap.size ≤ w2.heap.size by omega) (.inl sz4) 4 (.slice (some ⟨gy, 0, none⟩) (yv.items.length + ky + 1) cy)) (L6.put (.slice (some ⟨gy, 0, none⟩) (yv.items.length + ky + 1) cy))))
                  clear hrun O6 M6 hO hM hL hy L6
                  go_wp2_with (at_builtin; refine Lib.wpList_append_run _ rfl (.tmp 145) (.tmp 147) 22 22 rfl _ _ rfl rfl _ _ HRN.out ?_; clear HRN)
                  go_roundw
                  case rel => exact ⟨ky + 1, _, by omega, by go_num, HP.out.1, HP.out.2.1, HP.out.2.2⟩
                  case measure => simp [intOf]; omega
                · have HM2 := hide hM
                  clear hO hM hL y0 y1 y2 y3 y4
                  go_wp2
                  obtain ⟨wo3, hwo3⟩ : ∃ wo, wo = wr := ⟨_, rfl⟩
                  subst hwo3
                  go_loopw [20] (fun i wr => ∃ k : Nat, k ≤ its.length ∧ i = .int .i64 k ∧ MidK X.heap.size W2.heap.size X w9 wr) (fun i _ => its.length - (intOf i).toNat)
                  case atStart => exact ⟨0, Nat.zero_le _, rfl, HM2.out⟩
                  case round =>
                    obtain ⟨k5, hk5, rfl, hM⟩ := hrel
                    rcases (show (k5 < its.length ∧ p = 0) ∨ (k5 < its.length ∧ ¬ p = 0) ∨ ¬ k5 < its.length from by omega) with ⟨hlt5, hp⟩ | ⟨hlt5, hp⟩ | hlt5
                    · first
                        | exact absurd hp (by simpa using hpb)
                        | (obtain ⟨b1, o1, s1, rfl, g1, p0, p1, p2, p3, p4, p5, _⟩ := (HIN.out.below hM.1).item k5 hlt5
                           obtain ⟨b2, o2, s2, rfl, g2, q0, q1, q2, q3, q4, q5, _⟩ := (HIX.out.below hM.1).item k5 hlt5
                           have hs := hM.2.2
                           have HC := hide (fun (q : Wv wr) => alike_self its[k5] q.val (n + 1) (n + 1) s1 s2 ((p5.below (q.below.mono (by omega))).up (by have := q.below.size; omega)) ((q5.below (q.below.mono (by omega))).up (by have := q.below.size; omega)))
                           have hk0 : (0 : Int) ≤ (k5 : Int) := by omega
                           have hk1 : (k5 : Int) < (its.length : Int) := by omega
                           have hpt : (p == 0) = true := by rw [hp]; rfl
                           have hany := Wv.any wr
                           have u0 := fun q : Wv wr => q.cell p0
                           have u1 := fun q : Wv wr => q.cell p1
                           have u2 := fun q : Wv wr => q.cell p2
                           have u3 := fun q : Wv wr => q.cell p3
                           have u4 := fun q : Wv wr => q.cell p4
                           have v0 := fun q : Wv wr => q.cell q0
                           have v1 := fun q : Wv wr => q.cell q1
                           have v2 := fun q : Wv wr => q.cell q2
                           have v3 := fun q : Wv wr => q.cell q3
                           have v4 := fun q : Wv wr => q.cell q4
                           obtain ⟨xx1, yy1, rfl, _⟩ := p5.len
                           obtain ⟨xx2, yy2, rfl, _⟩ := q5.len
                           have HB3 := hide (fun (q : Wv wr) => hM.later q.below hXY)
                           clear p5 q5 hM g1 g2 p0 p1 p2 p3 p4 q0 q1 q2 q3 q4 hp
                           generalize its[k5].items = xi at *
                           generalize its[k5] = x at *
                           go_wp2
                           refine wp_region_grown (by kernel_rfl) (by kernel_rfl) ?_
                           repeat (go_big_quiet_step ((go_at_call 13; exact Wv.calls _ (HC.out _))))
                           refine wpQuiet_nil ?_
                           intro w1 hw'
                           obtain ⟨q, rfl⟩ := hw'
                           go_wp2
                           go_roundw
                           case rel => exact ⟨k5 + 1, by omega, by go_num, HB3.out q⟩
                           case measure => simp [intOf]; omega)
                    all_goals (try (have hpb : (p == 0) = false := by simpa using hp))
                    all_goals (try clear hp)
                    all_goals (
                      have HM3 := hide hM
                      have hs3 := hM.2.2
                      clear hM
                      go_wp2_with (first
                        | (go_at_call 46; refine (HSe.out _ _ (trans_v HBX.out HM3.out.1) ((HIN.out.below HM3.out.1).up (by omega))).mono ?_; clear HSe; rintro e wa ⟨sa, rfl, ia', ba⟩; obtain ⟨aa, ca, rfl, _⟩ := ia'.len; have BWa : Below wa.heap.size wa (wa.alloc (.cells (vcells zv (.slice aa zv.items.length ca)) 25)) := alloc_v (Below.refl _ _) _; have MA := HM3.out.later (trans_v ba BWa) hXY; have LC : Lies (wa.alloc (.cells (vcells zv (.slice aa zv.items.length ca)) 25)) w6.heap.size zv (.slice a6 zv.items.length c6) := (MA.2.1 w6.heap.size (by omega) (by omega)).trans G6.out; have HA := hide (alike_self zv (wa.alloc (.cells (vcells zv (.slice aa zv.items.length ca)) 25)) (n + 2) (n + 2) _ _ (((ia'.at (B := wa.heap.size) (fun _ h => h.2)).below BWa).up BWa.size) (MA.far IC.out)); obtain ⟨f0, f1, f2, f3, f4⟩ := LC.cells; have BF := hide (trans_v HBX.out MA.1); clear MA LC BWa ia' ba)
                        | (go_at_call 13; refine HA.out.mono ?_; clear HA; rintro e wz ⟨rfl, bz⟩))
                      go_ret
                      exact ⟨rfl, trans_v BF.out bz⟩))
end Go.Proofs.YtgglommnipbagaaGreatDoor

/- ValueMakes answers true. -/
namespace Go.Proofs.YtgglommnipbagaaGreatDoor
open Go.RowKit

theorem leaf_same (v : Vl) (hv : v.items = []) (w : World) : Calls Tryz.prog 13 #[.agg (vcells v (.slice none 0 0)), .agg (vcells v (.slice none 0 0))] w fun e w' => e = .returned (.bool true) ∧ Below w.heap.size w w' := by
  have h : ItemsAt w w.heap.size 1 (.slice none 0 0) v.items := by rw [hv]; exact ⟨none, 0, rfl, Nat.zero_le _, fun j h => by simp at h⟩
  exact alike_self v w 1 1 _ _ h h
/-- A leaf, or none. -/
def leafR (b : Bool) (v : Vl) (c : Int) : Vl × Int := bif b then (v, 0) else (⟨0, 0, 0, ⟨#[]⟩, []⟩, c)
theorem leafR_items {b : Bool} {v : Vl} {c : Int} (hv : v.items = []) : (leafR b v c).1.items = [] := by
  cases b
  · rfl
  · exact hv
theorem leafR_cells (b : Bool) (v : Vl) (c : Int) : (bif b then vcells v (.slice none 0 0) else zcells) = vcells (leafR b v c).1 (.slice none 0 0) := by cases b <;> rfl
theorem leafR_code (b : Bool) (v : Vl) (c : Int) : (bif b then (0 : Int) else c) = (leafR b v c).2 := by cases b <;> rfl
set_option maxRecDepth 100000 in
set_option maxHeartbeats 4000000 in
theorem valueMakes_walk (i m : Int) (t : ByteArray) (its : List Vl) (w : World) (n : Nat) (sl : Value) (hT : Tabs w) (ht : t.size ≤ 1048576) (hi : ItemsAt w w.heap.size (n + 2) sl its) (hsz : (⟨5, 0, 0, ⟨#[]⟩, its⟩ : Vl).size ≤ 1000000000) :
    Calls Tryz.prog 3 #[.int .i64 i, .int .i64 m, .string t, sl] w fun e w' => e = .returned (.bool true) ∧ Below w.heap.size w w' := by
  have H1 := hide (fun (U : World) (b : Below w.heap.size w U) => symbol_k t (by omega) U (hT.below b))
  have H2 := hide (fun (U : World) => refSymV_k t ht U)
  have H3 := hide (fun (U : World) => gauss_k i m U)
  have H4 := hide (fun (U : World) => refGauss_k i m U)
  have HM := hide (fun (U : World) (b : Below w.heap.size w U) => makes_k its U n sl (hT.below b) ((hi.below b).up b.size) hsz)
  have HA := hide (fun (U : World) (b : Below w.heap.size w U) => alive4_k U (hT.below b))
  have hs : (leafR (symB t) ⟨4, 0, 0, t, []⟩ 40).1.items = [] := leafR_items rfl
  have hg : (leafR (gaussB i m) ⟨3, i, m, ⟨#[]⟩, []⟩ 42).1.items = [] := leafR_items rfl
  simp only [leafR_cells _ _ 40, leafR_code _ ⟨4, 0, 0, t, []⟩ 40] at H1 H2
  simp only [leafR_cells _ _ 42, leafR_code _ ⟨3, i, m, ⟨#[]⟩, []⟩ 42] at H3 H4
  generalize leafR (symB t) ⟨4, 0, 0, t, []⟩ 40 = s4 at *
  generalize leafR (gaussB i m) ⟨3, i, m, ⟨#[]⟩, []⟩ 42 = g3 at *
  obtain ⟨sv, sc⟩ := s4
  obtain ⟨gv, gc⟩ := g3
  dsimp only at H1 H2 H3 H4 hs hg
  have A1 := hide (fun (U : World) => leaf_same sv hs U)
  have A2 := hide (fun (U : World) => leaf_same gv hg U)
  have A3 := hide (fun (U : World) => leaf_same ⟨2, i, 0, ⟨#[]⟩, []⟩ rfl U)
  have A4 := hide (fun (U : World) => leaf_same ⟨1, bif decide (i > m) then 1 else 0, 0, ⟨#[]⟩, []⟩ rfl U)
  have BB := hide (Below.refl w.heap.size w)
  obtain ⟨a, c, rfl, _⟩ := hi.len
  clear hi hT hsz ht hs hg
  go_enter Tryz.func3, Tryz.ntmps3
  go_wp2_with (first
    | (go_at_call 9; refine (H1.out _ BB.out).mono ?_; clear H1; rintro e w1 ⟨rfl, b1⟩; have B1 := hide (trans_v BB.out (trans_v b1 (alloc_v (Below.refl _ _) (.cells (vcells sv (.slice none 0 0)) 25)))); have L1 := hide (Lies.new w1 sv (.slice none 0 0)); clear b1)
    | (go_at_call 10; refine (H2.out _).mono ?_; clear H2; rintro e w2 ⟨rfl, b2⟩; have D2 := trans_v b2 (alloc_v (Below.refl _ _) (.cells (vcells sv (.slice none 0 0)) 25)); have B2 := hide (trans_v B1.out D2); have M1 := hide (L1.out.later D2); have L2 := hide (Lies.new w2 sv (.slice none 0 0)); clear b2 D2 L1)
    | (go_at_call 11; refine (H3.out _).mono ?_; clear H3; rintro e w3 ⟨rfl, b3⟩; have D3 := trans_v b3 (alloc_v (Below.refl _ _) (.cells (vcells gv (.slice none 0 0)) 25)); have B3 := hide (trans_v B2.out D3); have N1 := hide (M1.out.later D3); have N2 := hide (L2.out.later D3); have L3 := hide (Lies.new w3 gv (.slice none 0 0)); clear b3 D3 M1 L2)
    | (go_at_call 12; refine (H4.out _).mono ?_; clear H4; rintro e w4 ⟨rfl, b4⟩; have D4 := trans_v b4 (alloc_v (Below.refl _ _) (.cells (vcells gv (.slice none 0 0)) 25)); have B4 := hide (trans_v B3.out D4); have O1 := hide (N1.out.later D4); have O2 := hide (N2.out.later D4); have O3 := hide (L3.out.later D4); have O4 := hide (Lies.new w4 gv (.slice none 0 0)); clear b4 D4 N1 N2 L3)
    | (go_at_call 14; refine (int_k _ _).mono ?_; rintro e w5 ⟨rfl, b5⟩)
    | (go_at_call 15; refine (refInt_k _ _).mono ?_; rintro e w6 ⟨rfl, b6⟩)
    | (go_at_call 13; with_reducible refine (A3.out _).mono ?_; clear A3; rintro e w7 ⟨rfl, b7⟩)
    | (go_at_call 16; refine (bool_k _ _).mono ?_; rintro e w8 ⟨rfl, b8⟩)
    | (go_at_call 17; refine (refBool_k _ _).mono ?_; rintro e w9 ⟨rfl, b9⟩)
    | (go_at_call 13; with_reducible refine (A4.out _).mono ?_; clear A4; rintro e wa ⟨rfl, ba⟩; have E := trans_v (trans_v (trans_v b5 b6) b7) (trans_v (trans_v b8 b9) ba); have P1 := hide (O1.out.later E); have P2 := hide (O2.out.later E); have P3 := hide (O3.out.later E); have P4 := hide (O4.out.later E); have B5 := hide (trans_v B4.out E); obtain ⟨d0, d1, d2, d3, d4⟩ := P1.out.cells; obtain ⟨f0, f1, f2, f3, f4⟩ := P2.out.cells; clear E b5 b6 b7 b8 b9 ba O1 O2 O3 O4)
    | (go_at_call 13; with_reducible refine (A1.out _).mono ?_; clear A1 d0 d1 d2 d3 d4 f0 f1 f2 f3 f4; rintro e wb ⟨rfl, bb⟩; have B6 := hide (trans_v B5.out bb); obtain ⟨d0, d1, d2, d3, d4⟩ := (P3.out.later bb).cells; obtain ⟨f0, f1, f2, f3, f4⟩ := (P4.out.later bb).cells; clear bb)
    | (go_at_call 18; refine (num4_k _ _).mono ?_; rintro e wq ⟨rfl, rfl⟩)
    | (go_at_call 13; with_reducible refine (A2.out _).mono ?_; clear A2 d0 d1 d2 d3 d4 f0 f1 f2 f3 f4; rintro e wc ⟨rfl, bc⟩; have B7 := hide (trans_v B6.out bc); clear bc)
    | (go_at_call 19; refine (HM.out _ B7.out).mono ?_; clear HM; rintro e wd ⟨rfl, bd⟩; have B8 := hide (trans_v B7.out bd); clear bd)
    | (go_at_call 20; refine (HA.out _ B8.out).mono ?_; clear HA; rintro e we ⟨rfl, be⟩))
  go_ret
  exact ⟨rfl, trans_v B8.out be⟩
end Go.Proofs.YtgglommnipbagaaGreatDoor

/- ValueMakes answers true for all numbers, texts and rows of values, up to the bulk of its upto statement. -/
namespace Go.Proofs.YtgglommnipbagaaGreatDoor.valueMakes
open Go.ChangeShapes Go.WideShapes Go.ChangeAt Go.RowKit
open Go.ChangeMaps (open_string)

set_option maxRecDepth 100000 in
theorem contract (H : Type) (enc : TypeId × Value → H) (W : World) (base : Nat) (args : Array Value) (ds gs : List (DataW H)) (before : List MemPlace)
    (hval : ∀ (j : Nat) t v, Tryz.f3.params[j]? = some t → args[j]? = some v → Value.okWide Tryz.prog W .any base t v)
    (hW : DataW.Whole enc Tryz.prog Tryz.f3.params.toList Rows.valueMakesSpec.vars false W args.toList ds gs before) (hL : laidMetH Tryz.prog laidL W) (hk : Rows.uptoBulkAll (ds ++ gs) ≤ 1048576) :
    Calls Tryz.prog 3 args W fun e W' => ∃ v, e = .returned v ∧ Rows.valueMakesSpec.post enc Tryz.prog Tryz.f3 false true false false W args v W' := by
  have hW' := hW
  obtain ⟨p, q, hA0, hV, rfl, hfz, hnd⟩ := hW
  have hA : DataW.TrodAll enc Tryz.prog W 0 (fun _ => true) true Tryz.f3.params.toList args.toList ds p := hA0
  rw [Tryz.params3] at hA hval
  obtain ⟨v0, vs0, d0, ds0, p0, q0, hargs, rfl, rfl, h0, r0⟩ := trodAll_cons hA
  obtain ⟨v1, vs1, d1, ds1, p1, q1, rfl, rfl, rfl, h1, r1⟩ := trodAll_cons r0
  obtain ⟨v2, vs2, d2, ds2, p2, q2, rfl, rfl, rfl, h2, r2⟩ := trodAll_cons r1
  obtain ⟨v3, vs3, d3, ds3, p3, q3, rfl, rfl, rfl, h3, r3⟩ := trodAll_cons r2
  obtain ⟨rfl, rfl, rfl⟩ := trodAll_nil r3
  obtain rfl : args = #[v0, v1, v2, v3] := by cases args; simp_all
  obtain ⟨rfl, rfl⟩ := trodVars_none hV
  simp only [List.append_nil, Rows.uptoBulkAll] at hk
  obtain ⟨n0, rfl, rfl, rfl, wf0⟩ := open_int Tryz.underlying2 (hval 0 2 v0 rfl rfl) h0
  have w0 := bounds_i64 wf0
  obtain ⟨n1, rfl, rfl, rfl, wf1⟩ := open_int Tryz.underlying2 (hval 1 2 v1 rfl rfl) h1
  have w1 := bounds_i64 wf1
  have h2' := h2
  obtain ⟨s2, rfl, rfl, rfl, _⟩ := open_string Tryz.underlying9 (hval 2 9 v2 rfl rfl) h2
  obtain ⟨a3, len3, cap3, rfl⟩ := okWide_slice Tryz.underlying22 (hval 3 22 v3 rfl rfl)
  have k3 := h3
  have lt3 : ∀ x ∈ p3, x.block < W.heap.size := by obtain ⟨m, hm⟩ := k3; exact DataW.trod_lt m _ _ _ hm
  obtain ⟨fuel3, hf3⟩ := h3
  obtain ⟨l3, hl3, hI3, hs3⟩ := open_vals hf3 (by omega)
  subst hl3
  clear hA0
  simp only [List.append_nil] at hW'
  have hlen2 : s2.data.toList.length = s2.size := by rw [Array.length_toList]; rfl
  have hb : s2.data.toList.length + 3 ≤ 1048576 := by
    simp [Rows.uptoBulk] at hk
    omega
  refine (valueMakes_walk n0 n1 s2 l3 W _ _ (tabs_of_laid hL) (by omega) (hI3.upto (Nat.le_succ _)) (by have := hs3 5 0 0 ⟨#[]⟩; omega)).mono fun e W' ⟨he, bel⟩ => ?_
  subst he
  exact ⟨_, rfl, _, _, _, [], _, [], hW', trodAll_mk1 (shut_bool Tryz.underlying4 _), trodAll_cons_mk (shut_int Tryz.underlying2 wf0) (trodAll_cons_mk (shut_int Tryz.underlying2 wf1) (trodAll_cons_mk (Below.trod laidOut (by kernel_rfl) (of_decide_eq_true (by kernel_rfl)) h2' bel (fun x hx => by cases hx)) (trodAll_cons_mk (Below.trod laidOut (by kernel_rfl) (of_decide_eq_true (by kernel_rfl)) k3 bel lt3) trodAll_mk0))), rfl, bel.frame _, fun h => by cases h⟩

theorem laid_met (os : Os) : laidMet Tryz.prog Rows.valueMakesUptoRow.laid ((laidWorld os).forCall (fun _ _ => 0) ⟨#[], #[.int .i64 0, .int .i64 0, .string ⟨#[]⟩, .slice none 0 0], []⟩).memory :=
  laidMet_of_run' 8 (by kernel_rfl) (by kernel_rfl)
theorem reads (os : Os) {H : Type} (enc : TypeId × Value → H) : ∃ places, DataW.whole enc Tryz.prog ((laidWorld os).forCall (fun _ _ => 0) ⟨#[], #[.int .i64 0, .int .i64 0, .string ⟨#[]⟩, .slice none 0 0], []⟩).memory Tryz.f3.params.toList Rows.valueMakesSpec.vars false #[Value.int .i64 0, Value.int .i64 0, Value.string ⟨#[]⟩, Value.slice none 0 0].toList 8 = some ([.lit (.int .i64 0), .lit (.int .i64 0), .lit (.string []), .nil], [], places) :=
  ⟨[], by kernel_rfl⟩

set_option maxRecDepth 100000 in
theorem liftedUpto (os : Os) (started : os.Started) (H : Type) (enc : TypeId × Value → H) (F : Stop.Interp) :
    ReturnsInHanded {} Tryz.checked os 3 .any ((Rows.OpenSpec.upto Rows.valueMakesSpec).preRow enc Tryz.prog Tryz.f3 Rows.valueMakesUptoRow.domain false Rows.valueMakesUptoRow.laid) (((Rows.OpenSpec.upto Rows.valueMakesSpec).at F).post enc Tryz.prog Tryz.f3 false true false false) := by
  obtain ⟨places, hx⟩ := reads os enc
  refine returnsInHanded_of_row (C := Tryz.checked) (s := Rows.OpenSpec.upto Rows.valueMakesSpec) own started (by kernel_rfl) Tryz.func3
    (witness_row_at (enc := enc) (C := Tryz.checked) false (laidWorld os) #[.int .i64 0, .int .i64 0, .string ⟨#[]⟩, .slice none 0 0] rfl (by kernel_rfl) (by kernel_rfl) (by kernel_rfl)
      (OpenSpec.preRow_of_cond 8 hx (by kernel_rfl) (fun k hk => by cases hk; kernel_rfl) (by kernel_rfl) (laid_met os))) ?_
  intro W base args ds gs before hval hW _ hcond _ hL _ _
  exact contract H enc W base args ds gs before hval hW hL (of_decide_eq_true (hcond _ rfl))

theorem saidUpto : Rows.ValueMakesUptoSaid :=
  OpenClaim.holds_of_cond 3 Tryz.f3 rfl rfl rfl rfl rfl rfl rfl ⟨rfl, rfl, rfl, rfl, rfl⟩ rfl rfl rfl rfl rfl (by kernel_rfl) Tryz.func3 (by kernel_rfl)
    (of_decide_eq_true (by kernel_rfl)) (by unfold Func.isWrapper; first | (rw [if_pos (by decide +kernel)]; kernel_rfl) | (rw [if_neg (by decide +kernel)]; exact ⟨rfl, rfl⟩))
    (fun os started H enc _ F => by rw [OpenClaim.pre_eq_preRow]; exact liftedUpto os started H enc F)

theorem plain (f : FuncId) (fn : Func) (hf : Tryz.pinned.checked.prog.funcNamed Rows.valueMakesRow.func = some f) (hfn : Tryz.pinned.checked.prog.funcs[f]? = some fn) :
    true = Tryz.pinned.checked.prog.looks [] ∧ ∀ (j : Nat) t, fn.params[j]? = some t → Tryz.pinned.checked.prog.wantsStandIn t = false := by
  obtain rfl : f = 3 := Option.some.inj ((show Tryz.prog.funcNamed Rows.valueMakesRow.func = some 3 by kernel_rfl).symm.trans hf) |>.symm
  obtain rfl : fn = Tryz.f3 := (Option.some.inj (Tryz.func3.symm.trans hfn)).symm
  refine ⟨by kernel_rfl, fun j t ht => ?_⟩
  rw [Tryz.params3] at ht
  have hm : t = 2 ∨ t = 2 ∨ t = 9 ∨ t = 22 := by simpa using Array.mem_of_getElem? ht
  rcases hm with rfl | rfl | rfl | rfl
  · exact (show Tryz.prog.wantsStandIn 2 = false by kernel_rfl)
  · exact (show Tryz.prog.wantsStandIn 2 = false by kernel_rfl)
  · exact (show Tryz.prog.wantsStandIn 9 = false by kernel_rfl)
  · exact (show Tryz.prog.wantsStandIn 22 = false by kernel_rfl)

theorem cardUpto : Rows.ValueMakesUptoCardSaid :=
  Claim7.holds_tied_plain_at .later [] _ _ _ _ saidUpto (fun _ h => by cases h) (by kernel_rfl) (fun _ h => by cases h) valueMakesUpto_row_tie rfl ⟨rfl, rfl⟩ (by kernel_rfl) rfl plain (by kernel_rfl)
end Go.Proofs.YtgglommnipbagaaGreatDoor.valueMakes
namespace Go.Proofs.YtgglommnipbagaaGreatDoor
theorem valueMakes_upto : Rows.ValueMakesUptoCardSaid := valueMakes.cardUpto
#print axioms valueMakes_upto
end Go.Proofs.YtgglommnipbagaaGreatDoor
