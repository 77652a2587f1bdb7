/- smear, of layer 7's statements. -/
import Derived.Test.YtgppmajmkpcciaaDoorGSmr
namespace Go.Proofs.YtgppmajmkpcciaaDoor
open Go.RowKit

def SmearH (n : Nat) : Prop := ∀ (L : Nat) (S : Nat → Prop) (w : World) (k i m : Int) (t : ByteArray) (sl : Value), (∀ b, S b → L ≤ b ∧ b < w.heap.size) → L ≤ w.heap.size → SmAt w S n sl →
  Calls Tryd.prog 12 #[.agg #[.int .i64 k, .int .i64 i, .int .i64 m, .string t, sl]] w fun e w' => (∃ v, e = .returned v) ∧ Smeared L S w w'
set_option maxRecDepth 100000 in
set_option maxHeartbeats 1000000 in
theorem smearH_step {n : Nat} (hC : SmearH n) : SmearH (n + 1) := by
  intro L S w k i m t sl hS hL hsl
  obtain ⟨W, hW⟩ : ∃ W, w.alloc (.cells #[.int .i64 k, .int .i64 i, .int .i64 m, .string t, sl] 42) = W := ⟨_, rfl⟩
  have bW : Below w.heap.size w W := by rw [← hW]; exact alloc_v (Below.refl _ _) _
  have e1 : W.heap[w.heap.size]? = some (.cells #[.int .i64 k, .int .i64 i, .int .i64 m, .string t, sl] 42 (0, 0)) := by rw [← hW]; exact World.alloc_heap_new w _
  have zW : w.heap.size < W.heap.size := (Array.getElem?_eq_some_iff.1 e1).1
  have hnb : ¬ S w.heap.size := fun h => by have := (hS _ h).2; omega
  have hsW := hsl.kept (fun b _ hb => bW.block b hb)
  obtain ⟨a, len, c, rfl, hln, _⟩ := hsl
  have HE := hide e1
  have HC := hide hC
  have HS := hide hS
  have HW := hide hsW
  have HSW := hide (Smeared.below (L := L) (S := S) bW hL)
  clear e1 hC hsW
  go_enter Tryd.func12, Tryd.ntmps12
  go_wp2
  clear hW
  go_loopw [2] (fun ii wr => ∃ kk : Nat, kk ≤ len ∧ ii = .int .i64 kk ∧ Smeared L S W wr) (fun ii _ => len - (intOf ii).toNat)
  case atStart => exact ⟨0, Nat.zero_le _, rfl, Smeared.refl _ _ _⟩
  case round =>
    obtain ⟨kk, hk, rfl, hM⟩ := hrel
    have f1 := (hM.2.2 _ hnb zW).trans HE.out
    have x4 := cells_at f1 4 _ rfl
    have hms := hM.2.1.size
    by_cases hlt : kk < len
    · have hr := hM.1 _ _ HW.out
      obtain ⟨_, _, _, e, _, hc⟩ := id hr
      cases e
      obtain ⟨b, k', i', m', t', s', rfl, hb, p0, p1, p2, p3, p4, pf, p5⟩ := hc kk hlt
      have hSr : ∀ b, S b → L ≤ b ∧ b < wr.heap.size := fun b h => by have := HS.out b h; omega
      have HR := hide (HC.out L S wr k' i' m' t' s' hSr (by omega) p5)
      have HRR := hide hr
      have HM := hide hM
      have HF := hide f1
      obtain ⟨n', rfl⟩ := p5.pos
      obtain ⟨xa, xl, xc, rfl, _⟩ := id p5
      have hk0 : (0 : Int) ≤ (kk : Int) := by omega
      have hk1 : (kk : Int) < (len : Int) := by omega
      clear hr hc p5 pf hM f1
      go_wp2_with (go_at_call 12; refine HR.out.mono ?_; clear HR; rintro e w2 ⟨⟨ev, rfl⟩, h2⟩; have hr2 := h2.1 _ _ HRR.out; have HP := hide ((HM.out.trans h2).trans (Smeared.put hr2 (fun b hb => (HS.out b hb).1) kk hlt)); obtain ⟨_, _, _, e2, _, hc2⟩ := id hr2; cases e2; obtain ⟨b', k2, i2, m2, t2, s2, e2, _, r0, r1, r2, r3, r4, rf, _⟩ := hc2 kk hlt; cases e2; have q0 := rf 0 (by omega); have q1 := rf 1 (by omega); have q2 := rf 2 (by omega); have q3 := rf 3 (by omega); have q4 := rf 4 (by omega); rw [Nat.add_zero] at q0; have f2 := (h2.2.2 _ hnb (by omega)).trans HF.out; have y4 := cells_at f2 4 _ rfl; clear h2 hr2 hc2 rf f2)
      go_roundw
      case rel => exact ⟨kk + 1, by omega, by go_num, HP.out⟩
      case measure => simp [intOf]; omega
    · have HM := hide hM
      clear hM f1
      go_wp2
      go_end0
      exact ⟨⟨_, rfl⟩, HSW.out.trans HM.out⟩
theorem smearH_k : ∀ n, SmearH n
  | 0 => fun _ _ _ _ _ _ _ _ _ _ h => h.elim
  | n + 1 => smearH_step (smearH_k n)
end Go.Proofs.YtgppmajmkpcciaaDoor
