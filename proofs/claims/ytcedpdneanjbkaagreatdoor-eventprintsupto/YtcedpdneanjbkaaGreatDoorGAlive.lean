/- What alive asks, reckoned. -/
import Derived.Test.YtcedpdneanjbkaaGreatDoorZVParse
import Derived.Test.YtcedpdneanjbkaaGreatDoorGEK
import Derived.Test.YtcedpdneanjbkaaGreatDoorGEM
import Derived.Test.YtcedpdneanjbkaaGreatDoorGE9
namespace Go.Proofs.YtcedpdneanjbkaaGreatDoor
open Go.RowKit

abbrev nv1 : Vl := numVl 1
abbrev nv3 : Vl := numVl 3
/-- The set of 1 and 3. -/
def sv : Vl := ⟨7, 0, 0, ⟨#[]⟩, [nv1, nv3]⟩
theorem o13 : ordV nv1 nv3 = -1 := by rw [ordV_is]; simp [orI, cmpI]
theorem o31 : ordV nv3 nv1 = 1 := by rw [ordV_is]; simp [orI, cmpI]
theorem o33 : ordV nv3 nv3 = 0 := ordV_self _
theorem set313 : dd likeV (srt [nv3, nv1, nv3]) = [nv1, nv3] := by
  simp [srt, insV, o13, o31, o33, dd, ddGo, likeV]
theorem size_leaf (k i m : Int) (t : ByteArray) : (⟨k, i, m, t, []⟩ : Vl).size = 1 := by rw [Vl.size_eq]; rfl
theorem size_sv : sv.size = 3 := by rw [Vl.size_eq]; simp [sv, size_leaf]
theorem r_num (z : Int) (L r : Nat) : rw (L + 1) (numVl z) (r + 1) = (true, r) := by
  have := rw_yes L (numVl z) (r + 1) (by omega) ⟨by unfold usedB; simp, by unfold goodB; simp⟩ (r' := r) (by simp [rwL])
  simpa using this
theorem right_num (z : Int) : rightV (numVl z) = true := by
  unfold rightV
  rw [show (16 : Nat) = 15 + 1 from rfl, show (4096 : Nat) = 4095 + 1 from rfl, r_num]
theorem right_sv : rightV sv = true := by
  unfold rightV
  have h : rwL (rw 15) sv.items (4096 - 1) = (true, 4093) := by
    show rwL (rw 15) [nv1, nv3] 4095 = _
    rw [rwL, show (15 : Nat) = 14 + 1 from rfl, show (4095 : Nat) = 4094 + 1 from rfl, r_num]
    simp only [if_true]
    rw [rwL, show (4094 : Nat) = 4093 + 1 from rfl, r_num]
    simp [rwL]
  have := rw_yes 15 sv 4096 (by omega) ⟨by unfold usedB; simp [sv], by unfold goodB; simp [sv]⟩ h
  rw [this]
  simp [sv, riseB, o13]
theorem it1 : Lib.itoa 1 = [49] := by unfold Lib.itoa; rw [if_neg (by decide), Lib.decDigits]; decide
theorem it3 : Lib.itoa 3 = [51] := by unfold Lib.itoa; rw [if_neg (by decide), Lib.decDigits]; decide
theorem it4 : Lib.itoa (-4) = [45, 52] := by unfold Lib.itoa; rw [if_pos (by decide), Lib.decDigits]; decide
theorem uv2 : Lib.uvarint 2 = [2] := by rw [Lib.uvarint]; decide
theorem uv6 : Lib.uvarint 6 = [6] := by rw [Lib.uvarint]; decide
theorem enc_sv : encV sv = [7, 2, 2, 2, 2, 6] := by
  rw [encV_eq]
  simp only [sv, List.map_cons, List.map_nil]
  rw [encV_eq nv1, encV_eq nv3]
  simp only [List.length_cons, List.length_nil]
  simp [zz, uv2, uv6]
theorem pr_sv : prV sv = [123, 49, 44, 32, 51, 125] := by
  unfold sv
  rw [pr_set]
  simp only [List.map_cons, List.map_nil, pr_int, it1, it3]
  decide
theorem dec_sv : decM [7, 2, 2, 2, 2, 6] 3 0 0 = some (sv, 6, 3) := by kernel_rfl
theorem dep_sv : depV sv = 2 := by
  rw [depV_eq]
  simp [sv, maxL, depV_eq]
theorem right_g : rightV ⟨3, 3, -4, ⟨#[]⟩, []⟩ = true := by
  unfold rightV
  have := rw_yes 15 ⟨3, 3, -4, ⟨#[]⟩, []⟩ 4096 (by omega) ⟨by unfold usedB; simp, by unfold goodB; simp⟩ (r' := 4095) rfl
  rw [this]
  rfl
theorem pr_g : prV ⟨3, 3, -4, ⟨#[]⟩, []⟩ = [51, 45, 52, 105] := by
  rw [pr_gauss, it3, it4]
  decide
theorem right_b : rightV ⟨1, 1, 0, ⟨#[]⟩, []⟩ = true := by
  unfold rightV
  have := rw_yes 15 ⟨1, 1, 0, ⟨#[]⟩, []⟩ 4096 (by omega) ⟨by unfold usedB; simp, by unfold goodB; simp⟩ (r' := 4095) rfl
  rw [this]
  rfl
theorem cmp_b : cmpV ⟨1, 1, 0, ⟨#[]⟩, []⟩ (numVl (-9)) = -1 := by
  unfold cmpV
  rw [right_b, right_num, ordV_is]
  simp [orI, cmpI]
theorem right_9 : rightV ⟨9, 0, 0, ⟨#[]⟩, []⟩ = false := by
  unfold rightV
  rw [rw_bad 15 _ 4096 (by omega) (by unfold goodB; simp)]
abbrev tx1 : List UInt8 := [123, 51, 44, 49, 32, 44, 32, 51, 125]
abbrev tx2 : List UInt8 := [40, 49, 41]
theorem c0 : cutM tx1 0 = ⟨123, 0, str [123]⟩ := by kernel_rfl
theorem c1 : cutM tx1 1 = ⟨48, 1, str [51]⟩ := by kernel_rfl
theorem c2 : cutM tx1 2 = ⟨44, 2, str [44]⟩ := by kernel_rfl
theorem c3 : cutM tx1 3 = ⟨48, 3, str [49]⟩ := by kernel_rfl
theorem c4 : cutM tx1 4 = ⟨44, 5, str [44]⟩ := by kernel_rfl
theorem c6 : cutM tx1 6 = ⟨48, 7, str [51]⟩ := by kernel_rfl
theorem c8 : cutM tx1 8 = ⟨125, 8, str [125]⟩ := by kernel_rfl
theorem c9 : cutM tx1 9 = ⟨-1, 9, ⟨#[]⟩⟩ := by kernel_rfl
theorem d0 : cutM tx2 0 = ⟨40, 0, str [40]⟩ := by kernel_rfl
theorem d1 : cutM tx2 1 = ⟨48, 1, str [49]⟩ := by kernel_rfl
theorem d2 : cutM tx2 2 = ⟨41, 2, str [41]⟩ := by kernel_rfl
theorem n3 : numE [51] = 0 ∧ numV [51] = 3 := by
  have e : wrapd [51] = 3 := by kernel_rfl
  unfold numE numV
  rw [e, it3]
  simp
theorem n1 : numE [49] = 0 ∧ numV [49] = 1 := by
  have e : wrapd [49] = 1 := by kernel_rfl
  unfold numE numV
  rw [e, it1]
  simp
theorem st (s : List UInt8) (k : Int) (o : Nat) (l : List UInt8) : stepM s ⟨k, o, str l⟩ = cutM s (o + l.length) := by unfold stepM; rw [str_size]
theorem nums1 : numsM tx1 125 3 (stepM tx1 (cutM tx1 0)) = some ([nv3, nv1, nv3], ⟨-1, 9, ⟨#[]⟩⟩) := by
  rw [c0, st]
  show numsM tx1 125 3 (cutM tx1 1) = _
  rw [c1]
  simp only [numsM, st, bytes_str, n3, List.length_cons, List.length_nil]
  simp only [Nat.reduceAdd, c2, st, List.length_cons, List.length_nil, c3, bytes_str, n1, c4, c6, n3, c8, c9]
  simp
end Go.Proofs.YtcedpdneanjbkaaGreatDoor

/- The calls that alive makes. -/
namespace Go.Proofs.YtcedpdneanjbkaaGreatDoor
open Go.RowKit

theorem lit313 (w : World) : ItemsAt (w.alloc (.cells #[.int .i64 2, .int .i64 3, .int .i64 0, .string ⟨#[]⟩, .slice none 0 0, .int .i64 2, .int .i64 1, .int .i64 0, .string ⟨#[]⟩, .slice none 0 0, .int .i64 2, .int .i64 3, .int .i64 0, .string ⟨#[]⟩, .slice none 0 0] 46)) (w.alloc (.cells #[.int .i64 2, .int .i64 3, .int .i64 0, .string ⟨#[]⟩, .slice none 0 0, .int .i64 2, .int .i64 1, .int .i64 0, .string ⟨#[]⟩, .slice none 0 0, .int .i64 2, .int .i64 3, .int .i64 0, .string ⟨#[]⟩, .slice none 0 0] 46)).heap.size 2 (.slice (some ⟨w.heap.size, 0, none⟩) 3 3) [nv3, nv1, nv3] := by
  have e := World.alloc_heap_new w (.cells #[.int .i64 2, .int .i64 3, .int .i64 0, .string ⟨#[]⟩, .slice none 0 0, .int .i64 2, .int .i64 1, .int .i64 0, .string ⟨#[]⟩, .slice none 0 0, .int .i64 2, .int .i64 3, .int .i64 0, .string ⟨#[]⟩, .slice none 0 0] 46)
  have nil : ItemsAt (w.alloc (.cells #[.int .i64 2, .int .i64 3, .int .i64 0, .string ⟨#[]⟩, .slice none 0 0, .int .i64 2, .int .i64 1, .int .i64 0, .string ⟨#[]⟩, .slice none 0 0, .int .i64 2, .int .i64 3, .int .i64 0, .string ⟨#[]⟩, .slice none 0 0] 46)) (w.alloc (.cells #[.int .i64 2, .int .i64 3, .int .i64 0, .string ⟨#[]⟩, .slice none 0 0, .int .i64 2, .int .i64 1, .int .i64 0, .string ⟨#[]⟩, .slice none 0 0, .int .i64 2, .int .i64 3, .int .i64 0, .string ⟨#[]⟩, .slice none 0 0] 46)).heap.size 1 (.slice none 0 0) [] := ⟨none, 0, rfl, Nat.zero_le _, fun j h => by simp at h⟩
  have ok : ∀ z : Int, -9223372036854775808 ≤ z ∧ z ≤ 9223372036854775807 → (numVl z).ok := fun z h => ok_mk (by decide) h ⟨by decide, by decide⟩
  refine ⟨_, 3, rfl, by unfold maxLen; simp, fun j hj => ?_⟩
  have hb : w.heap.size < (w.alloc (.cells #[.int .i64 2, .int .i64 3, .int .i64 0, .string ⟨#[]⟩, .slice none 0 0, .int .i64 2, .int .i64 1, .int .i64 0, .string ⟨#[]⟩, .slice none 0 0, .int .i64 2, .int .i64 3, .int .i64 0, .string ⟨#[]⟩, .slice none 0 0] 46)).heap.size := by simp
  match j, hj with
  | 0, _ => exact ⟨_, _, .slice none 0 0, rfl, hb, cells_at e 0 _ rfl, cells_at e 1 _ rfl, cells_at e 2 _ rfl, cells_at e 3 _ rfl, cells_at e 4 _ rfl, nil, ok 3 ⟨by decide, by decide⟩⟩
  | 1, _ => exact ⟨_, _, .slice none 0 0, rfl, hb, cells_at e 5 _ rfl, cells_at e 6 _ rfl, cells_at e 7 _ rfl, cells_at e 8 _ rfl, cells_at e 9 _ rfl, nil, ok 1 ⟨by decide, by decide⟩⟩
  | 2, _ => exact ⟨_, _, .slice none 0 0, rfl, hb, cells_at e 10 _ rfl, cells_at e 11 _ rfl, cells_at e 12 _ rfl, cells_at e 13 _ rfl, cells_at e 14 _ rfl, nil, ok 3 ⟨by decide, by decide⟩⟩
theorem dd_size (s : List Vl) (h : s.Perm [nv3, nv1, nv3]) : (⟨7, 0, 0, ⟨#[]⟩, dd likeV s⟩ : Vl).size ≤ 1000000000 := by
  have h1 := dd_len likeV s
  have h2 := h.length_eq
  rw [Vl.size_eq]
  have : ∀ x ∈ dd likeV s, x.size = 1 := fun x hx => by
    have := h.mem_iff.1 (dd_sub _ _ x hx)
    simp at this
    rcases this with rfl | rfl | rfl <;> exact size_leaf _ _ _ _
  have hs : ((dd likeV s).map Vl.size).sum ≤ (dd likeV s).length := by
    generalize dd likeV s = l at *
    clear h1
    induction l with
    | nil => simp
    | cons a l ih =>
      have ha := this a (by simp)
      have := ih (fun x hx => this x (by simp [hx]))
      simp only [List.map_cons, List.sum_cons, List.length_cons]
      omega
  simp at h2 ⊢
  omega
theorem sv_ok : sv.ok := ok_mk (by decide) ⟨by decide, by decide⟩ ⟨by decide, by decide⟩
theorem encode_sv (w : World) (sl : Value) (hT : Tabs w) (hi : ItemsAt w w.heap.size 2 sl sv.items) :
    Calls Tryz.prog 32 #[.agg (vcells sv sl)] w fun e w' => ∃ bv, e = .returned (.tuple #[bv, .int .i64 0]) ∧ BytesIn w' 0 w'.heap.size bv [7, 2, 2, 2, 2, 6] ∧ Below w.heap.size w w' := by
  refine (encode_k sv w 2 sl hT sv_ok (by rw [size_sv]; decide) (by rw [enc_sv]; decide) hi).mono ?_
  rintro e w' ⟨bv, rfl, hR⟩
  rw [right_sv, cond_true, enc_sv] at hR
  refine ⟨bv, by rw [right_sv]; rfl, ((ownsRow_bytes hR.row).2).mono (fun _ _ _ _ => rfl) (Nat.zero_le _) (Nat.le_refl _), ⟨hR.gr.os, hR.gr.tape, hR.gr.output, hR.gr.size, fun k hk => hR.gr.block k hk (by simp)⟩⟩
theorem decode_sv (w : World) (bv : Value) (hT : Tabs w) (hB : BytesIn w 0 w.heap.size bv [7, 2, 2, 2, 2, 6]) :
    Calls Tryz.prog 104 #[bv] w fun e w' => ∃ a c, e = .returned (.tuple #[.agg (vcells sv (.slice a 2 c)), .int .i64 6, .int .i64 0]) ∧ ItemsAt w' w'.heap.size 3 (.slice a 2 c) sv.items ∧ Below w.heap.size w w' := by
  refine (decode_ok 3 w bv _ sv 6 3 hT hB (by decide) dec_sv right_sv).mono ?_
  rintro e w' ⟨s', rfl, hi, hb⟩
  obtain ⟨a, c, rfl, _⟩ := hi.len
  exact ⟨a, c, rfl, hi.at (fun b h => h.2), hb⟩
theorem print_sv (w : World) (sl : Value) (hT : Tabs w) (hi : ItemsAt w w.heap.size 2 sl sv.items) :
    Calls Tryz.prog 22 #[.agg (vcells sv sl)] w fun e w' => e = .returned (.tuple #[.string ⟨#[123, 49, 44, 32, 51, 125]⟩, .int .i64 0]) ∧ Below w.heap.size w w' := by
  refine (print_k sv w 2 sl hT sv_ok (by rw [size_sv]; decide) (by rw [pr_sv]; decide) hi).mono ?_
  rintro e w' ⟨rfl, hb⟩
  exact ⟨by rw [right_sv, pr_sv]; rfl, hb⟩
theorem print_g (w : World) (hT : Tabs w) :
    Calls Tryz.prog 22 #[.agg (vcells ⟨3, 3, -4, ⟨#[]⟩, []⟩ (.slice none 0 0))] w fun e w' => e = .returned (.tuple #[.string ⟨#[51, 45, 52, 105]⟩, .int .i64 0]) ∧ Below w.heap.size w w' := by
  refine (print_k ⟨3, 3, -4, ⟨#[]⟩, []⟩ w 1 (.slice none 0 0) hT (ok_mk (by decide) ⟨by decide, by decide⟩ ⟨by decide, by decide⟩) (by rw [size_leaf]; decide) (by rw [pr_g]; decide) ⟨none, 0, rfl, Nat.zero_le _, fun j h => by simp at h⟩).mono ?_
  rintro e w' ⟨rfl, hb⟩
  exact ⟨by rw [right_g, pr_g]; rfl, hb⟩
theorem parse_1 (w : World) (hT : Tabs w) :
    Calls Tryz.prog 112 #[.string ⟨#[123, 51, 44, 49, 32, 44, 32, 51, 125]⟩] w fun e w' => ∃ a c, e = .returned (.tuple #[.agg (vcells sv (.slice a 2 c)), .agg fz]) ∧ ItemsAt w' w'.heap.size 2 (.slice a 2 c) sv.items ∧ Below w.heap.size w w' := by
  refine (parse_set w tx1 3 [nv3, nv1, nv3] ⟨-1, 9, ⟨#[]⟩⟩ (by decide) hT (by rw [c0]) (by rw [c0, st]; show ¬ (cutM tx1 1).kind = 125; rw [c1]; decide) nums1 (by decide) rfl).mono ?_
  rintro e w' ⟨s', rfl, hi, hb⟩
  have e : setV [nv3, nv1, nv3] = sv.items := set313
  rw [e] at hi ⊢
  obtain ⟨a, c, rfl, _⟩ := hi.len
  exact ⟨a, c, rfl, hi.at (fun b h => h.2), hb⟩
theorem parse_2 (w : World) (hT : Tabs w) :
    Calls Tryz.prog 112 #[.string ⟨#[40, 49, 41]⟩] w fun e w' => ∃ x y : Int, e = .returned (.tuple #[.agg zcells, .agg #[.int .i64 41, .int .i64 2, .int .i64 x, .int .i64 y]]) ∧ Below w.heap.size w w' := by
  have k0 : stepM tx2 (cutM tx2 0) = cutM tx2 1 := by rw [d0, st]; rfl
  have k1 : stepM tx2 (cutM tx2 1) = cutM tx2 2 := by rw [d1, st]; rfl
  refine (parse_tuple_no w tx2 (by decide) hT (by rw [d0]) (by rw [k0, d1]) (by rw [k0, d1]; show numE (str [49]).data.toList = 0; rw [bytes_str]; exact n1.1) (by rw [k0, k1, d2]; decide) 2 (by rw [k0, k1, d2])).mono ?_
  rintro e w' ⟨rfl, hb⟩
  exact ⟨_, _, rfl, hb⟩
theorem compare_9 (w : World) (hT : Tabs w) :
    Calls Tryz.prog 78 #[.agg (vcells ⟨1, 1, 0, ⟨#[]⟩, []⟩ (.slice none 0 0)), .agg (vcells ⟨2, -9, 0, ⟨#[]⟩, []⟩ (.slice none 0 0))] w fun e w' => e = .returned (.int .i64 (-1)) ∧ Below w.heap.size w w' := by
  refine (compare_k ⟨1, 1, 0, ⟨#[]⟩, []⟩ ⟨2, -9, 0, ⟨#[]⟩, []⟩ w 1 1 _ _ hT (by decide) (by decide) ⟨none, 0, rfl, Nat.zero_le _, fun j h => by simp at h⟩ ⟨none, 0, rfl, Nat.zero_le _, fun j h => by simp at h⟩).mono ?_
  rintro e w' ⟨rfl, hb⟩
  exact ⟨by rw [cmp_b], hb⟩
theorem check_9 (w : World) (hT : Tabs w) :
    Calls Tryz.prog 77 #[.agg (vcells ⟨9, 0, 0, ⟨#[]⟩, []⟩ (.slice none 0 0))] w fun e w' => e = .returned (.int .i64 40) ∧ Below w.heap.size w w' := by
  refine (check_k ⟨9, 0, 0, ⟨#[]⟩, []⟩ w 1 _ hT (by decide) ⟨none, 0, rfl, Nat.zero_le _, fun j h => by simp at h⟩).mono ?_
  rintro e w' ⟨rfl, hb⟩
  exact ⟨by rw [right_9]; rfl, hb⟩
end Go.Proofs.YtcedpdneanjbkaaGreatDoor
