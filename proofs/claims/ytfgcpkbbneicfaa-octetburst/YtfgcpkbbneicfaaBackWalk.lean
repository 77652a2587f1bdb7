/- OctetBack answers true, where what it is given is small. -/
import Derived.Test.YtfgcpkbbneicfaaBack
namespace Go.Proofs.Ytfgcpkbbneicfaa
open Go.RowKit
open Go.Lib (uvarint uvarint_small uvarint_big uvarint_length64 uvarint_pos)

theorem own_keep {w w1 : World} {B n : Nat} {e : TypeId} {v : Value} {xs : List Value} (h : w.ownsRow B e 1 v n xs) (hb : Below w.heap.size w w1) : w1.ownsRow B e 1 v n xs :=
  h.kept (row := none) ⟨hb.os, hb.tape, hb.output, hb.size, fun k hk _ => hb.block k hk⟩ (by cases v.ownBlock <;> simp)

theorem own_shape {w : World} {base n : Nat} {e : TypeId} {v : Value} {xs : List Value} (h : w.ownsRow base e 1 v n xs) : ∃ a c, v = .slice a n c := by
  rcases h.2 with ⟨rfl, rfl⟩ | ⟨g, cap, cur, rfl, _⟩
  · exact ⟨none, 0, rfl⟩
  · exact ⟨_, _, rfl⟩

/-- The bytes that are written so far. -/
def Wr (w wr : World) (v : Value) (l : List UInt8) : Prop := (∃ a c, v = .slice a l.length c) ∧ wr.ownsRow w.heap.size 5 1 v l.length (cellsOf l) ∧ Below w.heap.size w wr

theorem Wr.add {w wr w1 : World} {v v1 : Value} {l m : List UInt8} (h : Wr w wr v l) (hb : Below wr.heap.size wr w1) (h1 : Bytes w1 v1 m) (hn : l.length + m.length ≤ 140737488355328) :
    ∃ v' w2, (Builtin.append_ #[23, 23] 23 #[v, v1]).run Try.prog w1 = .ok v' w2 ∧ Wr w w2 v' (l ++ m) := by
  have hs := h.2.2.size
  have hs1 := hb.size
  obtain ⟨v', w2, hr, A1, A2⟩ := run_append_bytes w1 w.heap.size 23 v l.length (cellsOf l) (own_keep h.2.1 hb) v1 m h1 hn (by omega)
  rw [← cellsOf_app, ← List.length_append] at A1
  exact ⟨v', w2, hr, own_shape A1, A1, (h.2.2.trans (hb.mono hs)).grown A2 (by omega) (fun k hk => (h.2.1.lt k hk).1)⟩

theorem one_byte (w : World) (y : Value) (c : UInt8) (hy : y = .int .u8 (c.toNat : Int)) : Bytes (w.alloc (.cells #[y] 5)) (.slice (some ⟨w.heap.size, 0, none⟩) 1 1) [c] := by
  subst hy
  refine ⟨_, 1, rfl, fun j hj => ⟨w.heap.size, 0, rfl, ?_⟩⟩
  rw [Nat.zero_add, World.cell?_alloc_new]
  match j, hj with
  | 0, _ => rfl

theorem seal_row (w : World) (a : Option Addr) (c : Nat) (l : List UInt8) (hb : Bytes w (.slice a l.length c) l) (hl : l.length ≤ 140737488355324) :
    Calls Try.prog 32 #[.slice a l.length c] w fun e w' => ∃ a' c', e = .returned (.slice a' (sealed l).length c') ∧ BytesIn w' 0 w'.heap.size (.slice a' (sealed l).length c') (sealed l) ∧ Below w.heap.size w w' := by
  refine (seal_any w a c l hb hl).mono ?_
  rintro e w' ⟨v, rfl, h1, h2⟩
  obtain ⟨a', c', rfl⟩ := own_shape h1
  exact ⟨a', c', rfl, (ownsRow_bytes h1).2.mono (fun _ _ _ _ => rfl) (Nat.zero_le _) (Nat.le_refl _), h2⟩

theorem open_row (w : World) (a : Option Addr) (c : Nat) (l : List UInt8) (hb : BytesIn w 0 w.heap.size (.slice a (sealed l).length c) (sealed l)) (hl : l.length ≤ 140737488355324) :
    Calls Try.prog 31 #[.slice a (sealed l).length c] w fun e w' => ∃ a' c', e = .returned (.tuple #[.slice a' l.length c', .int .i64 0]) ∧ Bytes w' (.slice a' l.length c') l ∧ Below w.heap.size w w' := by
  have h := open_any w a c (sealed l) hb (by unfold sealed; rw [List.length_append]; show l.length + 4 ≤ _; omega)
  rw [(open_sealed l).1, (open_sealed l).2] at h
  exact h.mono fun e w' ⟨a', c', h1, h2, h3⟩ => ⟨a', c', h1, h2.plain, h3⟩

theorem rb_mk {w wr w6 w7 w9 w10 : World} {rb : Nat} {D : List UInt8} (hbel : Below w.heap.size w wr) (B6 : Below wr.heap.size wr w6) (B7 : Below w6.heap.size w6 w7)
    (S8 : w7.heap.size ≤ rb ∧ rb + 1 = w9.heap.size ∧ Rd w9 rb w7.heap.size D ∧ Below w7.heap.size w7 w9) (B10 : Below w9.heap.size w9 w10) : RB w w10 rb D := by
  obtain ⟨h1, h2, h3, h4⟩ := S8
  have s0 := hbel.size
  have s1 := B6.size
  have s2 := B7.size
  have s3 := h4.size
  have s4 := B10.size
  refine ⟨by omega, by omega, ⟨w7.heap.size, h3.kept (fun k _ hk => B10.block k (by omega)) h1⟩, ?_⟩
  exact (((hbel.trans (B6.mono s0)).trans (B7.mono (by omega))).trans (h4.mono (by omega))).trans (B10.mono (by omega))

set_option maxRecDepth 100000 in
set_option maxHeartbeats 4000000 in
theorem back_walk (pa : Option Addr) (pc : Nat) (ps : List Pc) (w : World) (hp : Pcs w pa ps) (hn : ps.length ≤ 1048576) (ht : (de ps 0).length ≤ 140737488355324) :
    Calls Try.prog 5 #[.slice pa ps.length pc] w fun e w' => e = .returned (.bool true) ∧ Below w.heap.size w w' := by
  have HP := hide hp
  have HT := hide ht
  clear hp ht
  go_enter Try.func5, Try.ntmps5
  go_wp2
  go_loopw [3, 4] (fun v t wr => ∃ k : Nat, k ≤ ps.length ∧ t = .int .i64 k ∧ Wr w wr v (en ps k)) (fun _ t _ => ps.length - (intOf t).toNat)
  case atStart => exact ⟨0, Nat.zero_le _, rfl, ⟨none, 0, rfl⟩, World.ownsRow_nil _ _ _ _, Below.refl _ _⟩
  case round =>
    obtain ⟨k, hk, rfl, hwr⟩ := hrel
    by_cases hlt : k < ps.length
    · obtain ⟨b, off, rfl, q0, q1, q2, q3⟩ := HP.out k hlt
      have z0 := cell_later hwr.2.2 q0
      have z1 := cell_later hwr.2.2 q1
      have z2 := cell_later hwr.2.2 q2
      have z3 := cell_later hwr.2.2 q3
      have hle := en_le ps (k + 1)
      have HS := hide (en_succ ps k hlt)
      rw [en_succ ps k hlt, List.length_append] at hle
      have HW := hide hwr
      have hfit : Hid ((en ps k).length + ps[k].bytes.length ≤ 140737488355328) := by have := HT.out; show _ ≤ _; omega
      clear q0 q1 q2 q3 hwr hle
      generalize ps[k] = p at *
      obtain ⟨pk, pu, pv, pst, hu, h0, h1, hs⟩ := p
      simp only at z0 z1 z2 z3
      by_cases e1 : pk = 1
      · subst e1
        have hby : Pc.bytes ⟨1, pu, pv, pst, hu, h0, h1, hs⟩ = [pu.toUInt8] := by simp [Pc.bytes]
        rw [hby] at HS hfit
        have hm := u8_mod pu
        generalize pu.toUInt8 = c at *
        obtain ⟨v', w2, hr, A3⟩ := HW.out.add ((Below.refl _ wr).alloc (Nat.le_refl _) (.cells #[.int .u8 ((pu : Int) % 256)] 5)) (one_byte wr _ c (congrArg (Value.int .u8) hm)) hfit.out
        rw [← HS.out] at A3
        have R := hide A3
        have HRR := hide hr
        clear A3 hr hm
        go_wp2_with (at_builtin; refine Lib.wpList_append_run _ rfl (.tmp 31) (.tmp 38) 23 23 rfl _ _ rfl rfl _ _ HRR.out ?_)
        go_roundw
        case rel => exact ⟨k + 1, by omega, by go_num, R.out⟩
        case measure => simp [intOf]; omega
      by_cases e2 : pk = 2
      · subst e2
        have hby : Pc.bytes ⟨2, pu, pv, pst, hu, h0, h1, hs⟩ = uvarint pu := by simp [Pc.bytes]
        rw [hby] at HS hfit
        go_wp2_with (first | (go_at_call 9; refine (uvarint_any _ hu _).mono ?_; rintro e w1 ⟨v1, rfl, A1, A2⟩; obtain ⟨v', w2, hr, A3⟩ := HW.out.add A2 (ownsRow_bytes A1).2.plain hfit.out; rw [← HS.out] at A3; have R := hide A3; have HRR := hide hr; clear A1 A2 A3 hr) | (at_builtin; refine Lib.wpList_append_run _ rfl (.tmp 42) (.tmp 48) 23 23 rfl _ _ rfl rfl _ _ HRR.out ?_))
        go_roundw
        case rel => exact ⟨k + 1, by omega, by go_num, R.out⟩
        case measure => simp [intOf]; omega
      by_cases e3 : pk = 3
      · subst e3
        have hby : Pc.bytes ⟨3, pu, pv, pst, hu, h0, h1, hs⟩ = uvarint (zz pv) := by simp [Pc.bytes]
        rw [hby] at HS hfit
        go_wp2_with (first | (go_at_call 10; refine (varint_any _ h0 h1 _).mono ?_; rintro e w1 ⟨v1, rfl, A1, A2⟩; obtain ⟨v', w2, hr, A3⟩ := HW.out.add A2 (ownsRow_bytes A1).2.plain hfit.out; rw [← HS.out] at A3; have R := hide A3; have HRR := hide hr; clear A1 A2 A3 hr) | (at_builtin; refine Lib.wpList_append_run _ rfl (.tmp 52) (.tmp 58) 23 23 rfl _ _ rfl rfl _ _ HRR.out ?_))
        go_roundw
        case rel => exact ⟨k + 1, by omega, by go_num, R.out⟩
        case measure => simp [intOf]; omega
      by_cases e4 : pk = 4
      · subst e4
        have hby : Pc.bytes ⟨4, pu, pv, pst, hu, h0, h1, hs⟩ = txt pst := by simp [Pc.bytes]
        rw [hby] at HS hfit
        go_wp2_with (first | (go_at_call 11; refine (text_any _ (by omega) _).mono ?_; rintro e w1 ⟨v1, rfl, A1, A2⟩; obtain ⟨v', w2, hr, A3⟩ := HW.out.add A2 (ownsRow_bytes A1).2.plain hfit.out; rw [← HS.out] at A3; have R := hide A3; have HRR := hide hr; clear A1 A2 A3 hr) | (at_builtin; refine Lib.wpList_append_run _ rfl (.tmp 62) (.tmp 68) 23 23 rfl _ _ rfl rfl _ _ HRR.out ?_))
        go_roundw
        case rel => exact ⟨k + 1, by omega, by go_num, R.out⟩
        case measure => simp [intOf]; omega
      have hby : Pc.bytes ⟨pk, pu, pv, pst, hu, h0, h1, hs⟩ = [] := by simp [Pc.bytes, e1, e2, e3, e4]
      rw [hby, List.append_nil] at HS
      go_wp2
      go_roundw
      case rel => exact ⟨k + 1, by omega, by go_num, by rw [HS.out]; exact HW.out⟩
      case measure => simp [intOf]; omega
    · rw [en_all ps k (by omega)] at hwr
      obtain ⟨⟨au, cu, rfl⟩, hown, hbel⟩ := hwr
      have HBY := hide (ownsRow_bytes hown).2.plain
      have HBEL := hide hbel
      clear hown hbel
      generalize hD : de ps 0 = D at *
      have HD := hide hD
      clear hD
      go_wp2_with (first | (go_at_call 32; refine (seal_row _ _ _ D HBY.out HT.out).mono ?_; rintro e w6 ⟨a6, c6, rfl, A1, A2⟩; have S6 := hide A1; have B6 := hide A2; clear A1 A2) | (go_at_call 31; refine (open_row _ _ _ D S6.out HT.out).mono ?_; rintro e w7 ⟨a7, c7, rfl, A1, A2⟩; have S7 := hide A1; have B7 := hide A2; clear A1 A2) | (go_at_call 18; refine (newReader_any _ _ D S7.out (by have := HT.out; omega)).mono ?_; rintro e w8 ⟨rb, rfl, A1⟩; have S8 := hide A1; clear A1) | (go_at_call 12; refine (same_yes _ _ _ D D (HBY.out.later ((B6.out.trans (B7.out.mono B6.out.size)).trans (S8.out.2.2.2.mono (by have h1 := B6.out.size; have h2 := B7.out.size; omega)))) (S7.out.later S8.out.2.2.2) rfl).mono ?_; rintro e w9 ⟨rfl, rfl⟩) | (go_at_call 17; refine (heads_any _).mono ?_; rintro e w10 ⟨rfl, A1⟩; have B10 := hide A1; clear A1))
      have HRB := hide (rb_mk HBEL.out B6.out B7.out S8.out B10.out)
      clear HBY HBEL S6 S7 S8 B6 B7 B10
      rw [← HD.out] at HRB
      clear HT
      go_loopw [8] (fun t wx => ∃ k : Nat, k ≤ ps.length ∧ t = .int .i64 k ∧ RB w wx rb (de ps k)) (fun t _ => ps.length - (intOf t).toNat)
      case atStart => exact ⟨0, Nat.zero_le _, rfl, HRB.out⟩
      case round =>
        clear HRB hlt hk
        obtain ⟨k, hk, rfl, hrb⟩ := hrel
        by_cases hlt : k < ps.length
        · obtain ⟨b, off, rfl, q0, q1, q2, q3⟩ := HP.out k hlt
          have z0 := cell_later hrb.2.2.2 q0
          have HM := hide hrb
          have HSU := hide (de_succ ps k hlt)
          clear hrb
          generalize ps[k] = p at *
          obtain ⟨pk, pu, pv, pst, hu, h0, h1, hs⟩ := p
          simp only at z0 q0 q1 q2 q3
          have Q1 := hide q1
          have Q2 := hide q2
          have Q3 := hide q3
          clear q0 q1 q2 q3
          by_cases e1 : pk = 1
          · subst e1
            have hby : Pc.bytes ⟨1, pu, pv, pst, hu, h0, h1, hs⟩ = [pu.toUInt8] := by simp [Pc.bytes]
            rw [hby] at HSU
            have hm := u8_mod pu
            generalize pu.toUInt8 = c at *
            have HM' := hide (show RB w wr rb (c :: de ps (k + 1)) by have h := HM.out; rw [HSU.out] at h; exact h)
            go_wp2_with (go_at_call 20; refine (bU8 HM'.out).mono ?_; rintro e w11 ⟨rfl, A1⟩; have zk := cell_later A1.2.2.2 Q1.out; have R := hide A1; clear A1)
            go_roundw
            case rel => exact ⟨k + 1, by omega, by go_num, R.out⟩
            case measure => simp [intOf]; omega
          by_cases e2 : pk = 2
          · subst e2
            have hby : Pc.bytes ⟨2, pu, pv, pst, hu, h0, h1, hs⟩ = uvarint pu := by simp [Pc.bytes]
            rw [hby] at HSU
            have HM' := hide (show RB w wr rb (uvarint pu ++ de ps (k + 1)) by rw [← HSU.out]; exact HM.out)
            go_wp2_with (go_at_call 22; refine (bU hu HM'.out).mono ?_; rintro e w11 ⟨rfl, A1⟩; have zk := cell_later A1.2.2.2 Q1.out; have R := hide A1; clear A1)
            go_roundw
            case rel => exact ⟨k + 1, by omega, by go_num, R.out⟩
            case measure => simp [intOf]; omega
          by_cases e3 : pk = 3
          · subst e3
            have hby : Pc.bytes ⟨3, pu, pv, pst, hu, h0, h1, hs⟩ = uvarint (zz pv) := by simp [Pc.bytes]
            rw [hby] at HSU
            have HM' := hide (show RB w wr rb (uvarint (zz pv) ++ de ps (k + 1)) by rw [← HSU.out]; exact HM.out)
            go_wp2_with (go_at_call 24; refine (bV h0 h1 HM'.out).mono ?_; rintro e w11 ⟨rfl, A1⟩; have zk := cell_later A1.2.2.2 Q2.out; have R := hide A1; clear A1)
            go_roundw
            case rel => exact ⟨k + 1, by omega, by go_num, R.out⟩
            case measure => simp [intOf]; omega
          by_cases e4 : pk = 4
          · subst e4
            have hby : Pc.bytes ⟨4, pu, pv, pst, hu, h0, h1, hs⟩ = txt pst := by simp [Pc.bytes]
            rw [hby] at HSU
            have HM' := hide (show RB w wr rb (txt pst ++ de ps (k + 1)) by rw [← HSU.out]; exact HM.out)
            go_wp2_with (go_at_call 26; refine (bT hs HM'.out).mono ?_; rintro e w11 ⟨rfl, A1⟩; have zk := cell_later A1.2.2.2 Q3.out; have R := hide A1; clear A1)
            go_roundw
            case rel => exact ⟨k + 1, by omega, by go_num, R.out⟩
            case measure => simp [intOf]; omega
          have hby : Pc.bytes ⟨pk, pu, pv, pst, hu, h0, h1, hs⟩ = [] := by simp [Pc.bytes, e1, e2, e3, e4]
          rw [hby, List.nil_append] at HSU
          go_wp2
          go_roundw
          case rel => exact ⟨k + 1, by omega, by go_num, by rw [← HSU.out]; exact HM.out⟩
          case measure => simp [intOf]; omega
        · rw [de_end ps k (by omega)] at hrb
          have HM := hide hrb
          clear hrb
          go_wp2_with (go_at_call 28; refine (bE HM.out).mono ?_; rintro e w11 ⟨rfl, rfl⟩)
          go_ret
          exact ⟨rfl, HM.out.2.2.2⟩
end Go.Proofs.Ytfgcpkbbneicfaa
