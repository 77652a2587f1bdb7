/- Same of two sets of one room. -/
import Derived.Test.YtfagjejknnkhdaaDoorBWithin
namespace Go.Proofs.YtfagjejknnkhdaaDoor
open Go.RowKit

set_option maxRecDepth 100000 in
set_option maxHeartbeats 1000000 in
theorem same_k {w : World} {sb g cap n tb g2 cap2 : Nat} {ws vs : List Nat} (h1 : SetAt w sb g cap n ws) (h2 : SetAt w tb g2 cap2 n vs) :
    Calls Tryd.prog 11 #[.pointer (some ⟨sb, 0, none⟩), .pointer (some ⟨tb, 0, none⟩)] w fun e w' => e = .returned (.bool (decide (ws = vs))) ∧ ∃ m, w' = w.drewN m := by
  have hgw : ∀ m, Calls Tryd.prog 32 #[.pointer (some ⟨sb, 0, none⟩), .pointer (some ⟨tb, 0, none⟩)] (w.drewN m) fun e w' => e = .returned (.int .i64 0) ∧ ∃ k, w' = w.drewN k := fun m => by
    have := goesWith_k (h1.drewN m) (h2.drewN m)
    rw [if_pos rfl] at this
    exact this.mono fun _ _ ⟨p, k, q⟩ => ⟨p, _, q.trans (World.drewN_drewN _ _ _)⟩
  have HW := hide hgw
  have hl : vs.length = ws.length := by rw [h1.len, h2.len]
  have hlen : ws.length ≤ 64 := by have := h1.len; have := h1.room; omega
  have HE : Hid (∀ m, Calls Tryd.prog 33 #[.slice (some ⟨g, 0, none⟩) ws.length cap, .slice (some ⟨g2, 0, none⟩) vs.length cap2] (w.drewN m) fun e w' => e = .returned (.bool (decide (ws = vs))) ∧ ∃ m, w' = w.drewN m) := fun m =>
    (equal_k (w := w.drewN m) (g := g) (cap := cap) (g2 := g2) (cap2 := cap2) (h1.drewN m).get (h2.drewN m).get hl hlen).mono fun _ _ ⟨p, k, q⟩ => ⟨p, _, q.trans (World.drewN_drewN _ _ _)⟩
  obtain ⟨c0, c1, c2⟩ := h1.cells
  obtain ⟨d0, d1, d2⟩ := h2.cells
  clear h1 h2 hgw c0 c1 d0 d1 hl hlen
  generalize decide (ws = vs) = b at *
  go_enter Tryd.func11, Tryd.ntmps11
  go_wp2
  go_quiet (first
    | (go_at_call 32; exact HW.out _)
    | (go_at_call 33; exact HE.out _))
  go_wp2
  go_ret
  exact ⟨rfl, _, rfl⟩
end Go.Proofs.YtfagjejknnkhdaaDoor
