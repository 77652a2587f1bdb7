/- does: Or of both. -/
import Derived.Test.YtfagjejknnkhdaaDoorBDoes
import Derived.Test.YtfagjejknnkhdaaDoorBRefJoin1
namespace Go.Proofs.YtfagjejknnkhdaaDoor
open Go.RowKit

set_option maxRecDepth 100000 in
set_option maxHeartbeats 4000000 in
theorem does_or {L : Nat} {W : World} {sr tr : Nat} {s : Nat → Side} (h : Two L W sr tr s) (hL : L ≤ W.heap.size) (k o : Nat) (hk : k < 2) (ho : o < 2) (on x : Int) (ot : Bool) :
    Calls Tryd.prog 7 #[.slice (some ⟨sr, 0, none⟩) 2 2, .slice (some ⟨tr, 0, none⟩) 2 2, .agg #[.int .i64 3, .int .i64 on, .int .i64 x, .bool ot], .int .i64 (k : Int), .int .i64 (o : Int)] W fun e W' => e = .returned (.bool true) ∧
      ∃ s', Two L W' sr tr s' ∧ (∀ j, (s' j).n = (s j).n) ∧ Below L W W' ∧ KeepC W W' := by
  obtain ⟨W1, hW1⟩ : ∃ W1, W.alloc (.cells #[.int .i64 3, .int .i64 on, .int .i64 x, .bool ot] 37) = W1 := ⟨_, rfl⟩
  have b1 : Below W.heap.size W W1 := by rw [← hW1]; exact (Below.refl _ _).alloc (Nat.le_refl _) _
  have h1 := h.below b1
  have hx : W1.heap[W.heap.size]? = some (.cells #[.int .i64 3, .int .i64 on, .int .i64 x, .bool ot] 37 (0, 0)) := by rw [← hW1]; exact World.alloc_heap_new _ _
  have c0 : W1.cell? ⟨W.heap.size, 0, none⟩ = some (.int .i64 3) := by simp [World.cell?, hx]
  obtain ⟨d1, d2⟩ := h1.ptr k hk
  obtain ⟨f1, f2⟩ := h1.ptr o ho
  have hA := h1.each k hk
  have hB := h1.each o ho
  have l1 := World.block_lt_of_cell? W1 _ d1
  have l2 := World.block_lt_of_cell? W1 _ d2
  have e1 : (s k).g ≠ sr := row_type hA.set.row h1.srow (by decide)
  have e2 : (s k).g ≠ tr := row_type hA.set.row h1.trow (by decide)
  have e4 : (s k).hb ≠ sr := row_type hA.ref.row h1.srow (by decide)
  have e5 : (s k).hb ≠ tr := row_type hA.ref.row h1.trow (by decide)
  have a1 := RefAt.apart hA.set hA.ref
  have e7 : (s k).g ≠ (s k).pb := Ne.symm a1.1
  have e8 : (s k).g ≠ (s k).hb := Ne.symm a1.2.1
  have a2 := RefAt.apart hA.set hB.ref
  have e9 : (s k).g ≠ (s o).pb := Ne.symm a2.1
  have e10 : (s k).g ≠ (s o).hb := Ne.symm a2.2.1
  have HH := hide (fun (U V : World) (r : Nat) (hc : U.cell? ⟨sr, k, none⟩ = some (.pointer (some ⟨(s k).sb, 0, none⟩)) ∧ U.cell? ⟨sr, o, none⟩ = some (.pointer (some ⟨(s o).sb, 0, none⟩)) ∧ U.cell? ⟨tr, k, none⟩ = some (.pointer (some ⟨(s k).pb, 0, none⟩)) ∧ U.cell? ⟨tr, o, none⟩ = some (.pointer (some ⟨(s o).pb, 0, none⟩))) (hg : U.grownBy V (some r)) (q1 : r ≠ sr) (q2 : r ≠ tr) => (⟨(hg.cell_far ⟨sr, k, none⟩ (World.block_lt_of_cell? U _ hc.1) (by simpa using Ne.symm q1)).trans hc.1, (hg.cell_far ⟨sr, o, none⟩ (World.block_lt_of_cell? U _ hc.2.1) (by simpa using Ne.symm q1)).trans hc.2.1, (hg.cell_far ⟨tr, k, none⟩ (World.block_lt_of_cell? U _ hc.2.2.1) (by simpa using Ne.symm q2)).trans hc.2.2.1, (hg.cell_far ⟨tr, o, none⟩ (World.block_lt_of_cell? U _ hc.2.2.2) (by simpa using Ne.symm q2)).trans hc.2.2.2⟩ : _ ∧ _ ∧ _ ∧ _))
  have HC0 := hide (And.intro d1 (And.intro f1 (And.intro d2 f2)))
  have p0 : (0 : Int) ≤ (k : Int) := by omega
  have p1 : (k : Int) < 2 := by omega
  have p2 : (0 : Int) ≤ (o : Int) := by omega
  have p3 : (o : Int) < 2 := by omega
  have BL := hide (b1.mono hL)
  have KB := hide (keepC_below b1)
  have lo := h1.lo k hk
  by_cases hn : (s k).n = (s o).n
  · have hbl : (s k).bs.length = (s o).bs.length := by rw [hA.len, hB.len, hn]
    have hsm : (s k).hb = (s o).hb → (s k).bs = (s o).bs := fun e => by
      by_cases ko : k = o
      · rw [ko]
      · exact absurd e (h1.apart k o hk ho ko).2
    have hB' := hB.set
    rw [← hn] at hB'
    have HP := hide (fun m => or_k (hA.set.drewN m) (hB'.drewN m))
    have HJ := hide (fun (U : World) (hg : W1.grownBy U (some (s k).g)) => refJoin1_k (hA.ref.kept hg (by simpa using e7) (by simpa using e8)) (hB.ref.kept hg (by simpa using e9) (by simpa using e10)) hbl hsm)
    have HREL := hide (hA.rel.or hB.rel hbl)
    have HLEN := hide ((joinB_len 1 (s k).bs (s o).bs).trans hA.len)
    have H1 := hide h1
    clear hA hB hB' h1 h hx b1 hbl hsm a1 a2 e7 e8 e9 e10
    go_enter Tryd.func7, Tryd.ntmps7
    go_wp2
    clear hW1 c0
    go_region_held3 (fun w' => w'.cell? ⟨sr, k, none⟩ = some (.pointer (some ⟨(s k).sb, 0, none⟩)) ∧ w'.cell? ⟨sr, o, none⟩ = some (.pointer (some ⟨(s o).sb, 0, none⟩)) ∧ w'.cell? ⟨tr, k, none⟩ = some (.pointer (some ⟨(s k).pb, 0, none⟩)) ∧ w'.cell? ⟨tr, o, none⟩ = some (.pointer (some ⟨(s o).pb, 0, none⟩)))
      (first | go_keep | exact HG2.out | exact HG3.out)
      (first
        | ((go_at_call 19; refine (HP.out 1).mono ?_; rintro e w2 ⟨rfl, s2, g2⟩; have S2 := hide s2; have G2 : Hid (W1.grownBy w2 (some (s k).g)) := hide ⟨g2.os, g2.tape, g2.output, g2.size, g2.block⟩; have HG2 := hide (HH.out _ _ _ HC0.out G2.out e1 e2); clear s2 g2))
        | ((go_at_call 20; refine (HJ.out _ G2.out).mono ?_; rintro e w3 ⟨rfl, s3, g3⟩; have S3 := hide s3; have G3 := hide g3; have HG3 := hide (HH.out _ _ _ HG2.out g3 e4 e5); clear s3 g3)))
    go_wp2
    go_ret
    refine ⟨rfl, _, Two.turned H1.out k hk G2.out S2.out G3.out S3.out HREL.out HLEN.out, fun j => by unfold upd; split <;> simp_all, ?_⟩
    exact ⟨below_gr (below_gr BL.out G2.out lo.1 hL) G3.out lo.2 hL, KB.out.trans (H1.out.keepC k hk G2.out G3.out)⟩
  · have hbl : (s k).bs.length ≠ (s o).bs.length := by rw [hA.len, hB.len]; exact hn
    have HP := hide (fun m => or_r (hA.set.drewN m) (hB.set.drewN m) hn)
    have HJ := hide (fun m => refJoin_no 1 (hA.ref.drewN m) (hB.ref.drewN m) hbl)
    have H1 := hide h1
    clear hA hB h1 h hx b1 hbl a1 a2 e7 e8 e9 e10
    go_enter Tryd.func7, Tryd.ntmps7
    go_wp2
    clear hW1 c0
    go_quiet (first
      | (go_at_call 19; exact Calls.quiet_of ((HP.out _).mono fun _ _ h => h))
      | (go_at_call 20; exact Calls.quiet_of ((HJ.out _).mono fun _ _ h => h)))
    go_wp2
    go_ret
    exact ⟨rfl, s, H1.out.drewN _, fun _ => rfl, below_drewN BL.out _, fun b cs h => KB.out b cs h⟩
end Go.Proofs.YtfagjejknnkhdaaDoor
