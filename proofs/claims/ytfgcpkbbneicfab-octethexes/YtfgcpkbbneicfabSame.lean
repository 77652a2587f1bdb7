/- Same answers whether two rows of bytes are the same. -/
import Derived.Test.YtfgcpkbbneicfabHeads
namespace Go.Proofs.Ytfgcpkbbneicfab
open Go.RowKit

theorem same_any (w : World) (v1 v2 : Value) (l1 l2 : List UInt8) (h1 : Bytes w v1 l1) (h2 : Bytes w v2 l2) :
    Calls Try.prog 9 #[v1, v2] w fun e w' => e = .returned (.bool (l1 == l2)) ∧ w' = w := by
  have c1 := conv_bytes h1
  have c2 := conv_bytes h2
  have e1 : (bytesOf l1).toList = l1 := ByteArray.toList_mk l1
  have e2 : (bytesOf l2).toList = l2 := ByteArray.toList_mk l2
  clear h1 h2
  go_enter Try.func9, Try.ntmps9
  go_wp2
  go_ret
  exact ⟨rfl, rfl⟩

theorem same_yes (w : World) (v1 v2 : Value) (l1 l2 : List UInt8) (h1 : Bytes w v1 l1) (h2 : Bytes w v2 l2) (e : l1 = l2) :
    Calls Try.prog 9 #[v1, v2] w fun e w' => e = .returned (.bool true) ∧ w' = w := by
  have h := same_any w v1 v2 l1 l2 h1 h2
  rw [e] at h
  rw [show ((l2 == l2) = true) from by simp] at h
  exact h
end Go.Proofs.Ytfgcpkbbneicfab
