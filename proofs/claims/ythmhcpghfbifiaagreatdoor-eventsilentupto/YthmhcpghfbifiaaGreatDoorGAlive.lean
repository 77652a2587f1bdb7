/- What alive asks, reckoned. -/
import Derived.Test.YthmhcpghfbifiaaGreatDoorZVParse
import Derived.Test.YthmhcpghfbifiaaGreatDoorGEK
import Derived.Test.YthmhcpghfbifiaaGreatDoorGEM
import Derived.Test.YthmhcpghfbifiaaGreatDoorGE9
namespace Go.Proofs.YthmhcpghfbifiaaGreatDoor
open Go.RowKit

abbrev nv1 : Vl := numVl 1
abbrev nv3 : Vl := numVl 3
/-- The set of 1 and 3. -/
def sv : Vl := ⟨7, 0, 0, ⟨#[]⟩, [nv1, nv3]⟩
theorem o13 : ordV nv1 nv3 = -1 := by rw [ordV_is]; simp [orI, cmpI]
theorem o31 : ordV nv3 nv1 = 1 := by rw [ordV_is]; simp [orI, cmpI]
theorem o33 : ordV nv3 nv3 = 0 := ordV_self _
theorem set313 : dd likeV (srt [nv3, nv1, nv3]) = [nv1, nv3] := by
  simp [srt, insV, o13, o31, o33, dd, ddGo, likeV]
theorem size_leaf (k i m : Int) (t : ByteArray) : (⟨k, i, m, t, []⟩ : Vl).size = 1 := by rw [Vl.size_eq]; rfl
theorem size_sv : sv.size = 3 := by rw [Vl.size_eq]; simp [sv, size_leaf]
theorem r_num (z : Int) (L r : Nat) : rw (L + 1) (numVl z) (r + 1) = (true, r) := by
  have := rw_yes L (numVl z) (r + 1) (by omega) ⟨by unfold usedB; simp, by unfold goodB; simp⟩ (r' := r) (by simp [rwL])
  simpa using this
theorem right_num (z : Int) : rightV (numVl z) = true := by
  unfold rightV
  rw [show (16 : Nat) = 15 + 1 from rfl, show (4096 : Nat) = 4095 + 1 from rfl, r_num]
theorem right_sv : rightV sv = true := by
  unfold rightV
  have h : rwL (rw 15) sv.items (4096 - 1) = (true, 4093) := by
    show rwL (rw 15) [nv1, nv3] 4095 = _
    rw [rwL, show (15 : Nat) = 14 + 1 from rfl, show (4095 : Nat) = 4094 + 1 from rfl, r_num]
    simp only [if_true]
    rw [rwL, show (4094 : Nat) = 4093 + 1 from rfl, r_num]
    simp [rwL]
  have := rw_yes 15 sv 4096 (by omega) ⟨by unfold usedB; simp [sv], by unfold goodB; simp [sv]⟩ h
  rw [this]
  simp [sv, riseB, o13]
theorem it1 : Lib.itoa 1 = [49] := by unfold Lib.itoa; rw [if_neg (by decide), Lib.decDigits]; decide
theorem it3 : Lib.itoa 3 = [51] := by unfold Lib.itoa; rw [if_neg (by decide), Lib.decDigits]; decide
theorem it4 : Lib.itoa (-4) = [45, 52] := by unfold Lib.itoa; rw [if_pos (by decide), Lib.decDigits]; decide
theorem uv2 : Lib.uvarint 2 = [2] := by rw [Lib.uvarint]; decide
theorem uv6 : Lib.uvarint 6 = [6] := by rw [Lib.uvarint]; decide
theorem enc_sv : encV sv = [7, 2, 2, 2, 2, 6] := by
  rw [encV_eq]
  simp only [sv, List.map_cons, List.map_nil]
  rw [encV_eq nv1, encV_eq nv3]
  simp only [List.length_cons, List.length_nil]
  simp [zz, uv2, uv6]
theorem pr_sv : prV sv = [123, 49, 44, 32, 51, 125] := by
  unfold sv
  rw [pr_set]
  simp only [List.map_cons, List.map_nil, pr_int, it1, it3]
  decide
theorem dec_sv : decM [7, 2, 2, 2, 2, 6] 3 0 0 = some (sv, 6, 3) := by kernel_rfl
theorem dep_sv : depV sv = 2 := by
  rw [depV_eq]
  simp [sv, maxL, depV_eq]
theorem right_g : rightV ⟨3, 3, -4, ⟨#[]⟩, []⟩ = true := by
  unfold rightV
  have := rw_yes 15 ⟨3, 3, -4, ⟨#[]⟩, []⟩ 4096 (by omega) ⟨by unfold usedB; simp, by unfold goodB; simp⟩ (r' := 4095) rfl
  rw [this]
  rfl
theorem pr_g : prV ⟨3, 3, -4, ⟨#[]⟩, []⟩ = [51, 45, 52, 105] := by
  rw [pr_gauss, it3, it4]
  decide
theorem right_b : rightV ⟨1, 1, 0, ⟨#[]⟩, []⟩ = true := by
  unfold rightV
  have := rw_yes 15 ⟨1, 1, 0, ⟨#[]⟩, []⟩ 4096 (by omega) ⟨by unfold usedB; simp, by unfold goodB; simp⟩ (r' := 4095) rfl
  rw [this]
  rfl
theorem cmp_b : cmpV ⟨1, 1, 0, ⟨#[]⟩, []⟩ (numVl (-9)) = -1 := by
  unfold cmpV
  rw [right_b, right_num, ordV_is]
  simp [orI, cmpI]
theorem right_9 : rightV ⟨9, 0, 0, ⟨#[]⟩, []⟩ = false := by
  unfold rightV
  rw [rw_bad 15 _ 4096 (by omega) (by unfold goodB; simp)]
abbrev tx1 : List UInt8 := [123, 51, 44, 49, 32, 44, 32, 51, 125]
abbrev tx2 : List UInt8 := [40, 49, 41]
theorem c0 : cutM tx1 0 = ⟨123, 0, str [123]⟩ := by kernel_rfl
theorem c1 : cutM tx1 1 = ⟨48, 1, str [51]⟩ := by kernel_rfl
theorem c2 : cutM tx1 2 = ⟨44, 2, str [44]⟩ := by kernel_rfl
theorem c3 : cutM tx1 3 = ⟨48, 3, str [49]⟩ := by kernel_rfl
theorem c4 : cutM tx1 4 = ⟨44, 5, str [44]⟩ := by kernel_rfl
theorem c6 : cutM tx1 6 = ⟨48, 7, str [51]⟩ := by kernel_rfl
theorem c8 : cutM tx1 8 = ⟨125, 8, str [125]⟩ := by kernel_rfl
theorem c9 : cutM tx1 9 = ⟨-1, 9, ⟨#[]⟩⟩ := by kernel_rfl
theorem d0 : cutM tx2 0 = ⟨40, 0, str [40]⟩ := by kernel_rfl
theorem d1 : cutM tx2 1 = ⟨48, 1, str [49]⟩ := by kernel_rfl
theorem d2 : cutM tx2 2 = ⟨41, 2, str [41]⟩ := by kernel_rfl
theorem n3 : numE [51] = 0 ∧ numV [51] = 3 := by
  have e : wrapd [51] = 3 := by kernel_rfl
  unfold numE numV
  rw [e, it3]
  simp
theorem n1 : numE [49] = 0 ∧ numV [49] = 1 := by
  have e : wrapd [49] = 1 := by kernel_rfl
  unfold numE numV
  rw [e, it1]
  simp
theorem st (s : List UInt8) (k : Int) (o : Nat) (l : List UInt8) : stepM s ⟨k, o, str l⟩ = cutM s (o + l.length) := by unfold stepM; rw [str_size]
theorem nums1 : numsM tx1 125 3 (stepM tx1 (cutM tx1 0)) = some ([nv3, nv1, nv3], ⟨-1, 9, ⟨#[]⟩⟩) := by
  rw [c0, st]
  show numsM tx1 125 3 (cutM tx1 1) = _
  rw [c1]
  simp only [numsM, st, bytes_str, n3, List.length_cons, List.length_nil]
  simp only [Nat.reduceAdd, c2, st, List.length_cons, List.length_nil, c3, bytes_str, n1, c4, c6, n3, c8, c9]
  simp
end Go.Proofs.YthmhcpghfbifiaaGreatDoor
