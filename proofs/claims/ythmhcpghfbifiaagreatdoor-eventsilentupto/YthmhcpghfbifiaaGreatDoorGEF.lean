/- What alive of layer 6 asks, reckoned. -/
import Derived.Test.YthmhcpghfbifiaaGreatDoorGEC
import Derived.Test.YthmhcpghfbifiaaGreatDoorZEParse
import Derived.Test.YthmhcpghfbifiaaGreatDoorZEDec6
import Derived.Test.YthmhcpghfbifiaaGreatDoorGEB
import Derived.Test.YthmhcpghfbifiaaGreatDoorZESame
import Derived.Test.YthmhcpghfbifiaaGreatDoorGBkA
import Derived.Test.YthmhcpghfbifiaaGreatDoorGAlive
namespace Go.Proofs.YthmhcpghfbifiaaGreatDoor
open Go.RowKit
open Go.Lib (uvarint uvarint_pos uvarint_length64)

/-- A value behind a blank is read as it. -/
theorem parM_blank (v : Vl) (hr : rightV v = true) (hok : okD 16 v) : parM (32 :: prV v) = .ok v := by
  obtain ⟨h1, h2, h3⟩ := (rightV_is v).1 hr
  obtain ⟨hv, hb⟩ := back_all 16 v (32 :: prV v) 1 0 [] h3 h2 hok (by simp) (.inl rfl) (by omega)
  rw [List.append_nil] at hb
  have hc0 : cutM (32 :: prV v) 0 = TokAt (32 :: prV v) 1 := by
    rw [cut_bl (L := prV v) (by simp) (by simpa using hb)]
    rfl
  unfold parM
  rw [hc0, hv]
  have hd : (32 :: prV v).drop (1 + (prV v).length) = [] := List.drop_eq_nil_of_le (by rw [List.length_cons]; omega)
  have hc : cutM (32 :: prV v) (1 + (prV v).length) = ⟨-1, 1 + (prV v).length, ⟨#[]⟩⟩ := by
    rw [cut_nb (by rw [hd]; rfl), hd]
    rfl
  simp only [hc]
  rfl
theorem okD_leaf (k i m : Int) (t : ByteArray) (h : Vl.ok ⟨k, i, m, t, []⟩) : ∀ n, okD n ⟨k, i, m, t, []⟩
  | 0 => trivial
  | n + 1 => ⟨h, fun x hx => by simp at hx⟩
abbrev tv : Vl := ⟨1, 1, 0, ⟨#[]⟩, []⟩
theorem ok3 : Vl.ok (numVl 3) := ⟨by decide, by decide, by decide⟩
theorem okt : Vl.ok tv := ⟨by decide, by decide, by decide⟩
theorem par3 : parM [32, 51] = .ok (numVl 3) := by
  have h := parM_blank (numVl 3) (right_num 3) (okD_leaf _ _ _ _ ok3 16)
  rw [pr_int, it3] at h
  exact h
theorem part : parM [32, 116, 114, 117, 101] = .ok tv := by
  have h := parM_blank tv right_b (okD_leaf _ _ _ _ okt 16)
  rw [pr_true] at h
  exact h
abbrev T1 : List UInt8 := [35, 32, 104, 10, 32, 32, 105, 110, 118, 32, 112, 49, 32, 113, 32, 101, 110, 113, 32, 51, 10, 114, 101, 115, 32, 112, 49, 32, 116, 114, 117, 101, 10]
abbrev T2 : List UInt8 := [105, 110, 118, 32, 112, 32, 49, 113, 32, 101, 110, 113, 32, 51]
abbrev T3 : List UInt8 := [10, 105, 110, 118, 32, 112, 32, 113]
abbrev TP : List UInt8 := [105, 110, 118, 32, 112, 49, 32, 113, 32, 101, 110, 113, 32, 51, 10, 114, 101, 115, 32, 112, 49, 32, 116, 114, 117, 101, 10]
abbrev ea : Evn := ⟨1, [112, 49], [113], [101, 110, 113], numVl 3, 6, 2, 3⟩
abbrev eb : Evn := ⟨2, [112, 49], [], [], tv, 21, 3, 1⟩
theorem symB_b (t : List UInt8) : symB (bsN t) = (!(t == [116, 114, 117, 101]) && !(t == [102, 97, 108, 115, 101]) && anyB t) := by
  unfold symB anyB
  rw [bsN_toList]
theorem fitT (t : List UInt8) (h1 : (t == [116, 114, 117, 101]) = false) (h2 : (t == [102, 97, 108, 115, 101]) = false) (h3 : nameE t = 0) : fitB true t = true := by
  unfold fitB
  rw [if_pos rfl, symB_b, h1, h2]
  unfold anyB
  rw [h3]
  rfl
theorem fitA (t : List UInt8) (h3 : nameE t = 0) : fitB false t = true := by
  unfold fitB
  rw [if_neg Bool.false_ne_true]
  unfold anyB
  rw [h3]
  rfl
theorem nm_p1 : nameE [112, 49] = 0 := by kernel_rfl
theorem nm_q : nameE [113] = 0 := by kernel_rfl
theorem nm_p : nameE [112] = 0 := by kernel_rfl
theorem nm_enq : nameE [101, 110, 113] = 0 := by kernel_rfl
theorem nm_1q : nameE [49, 113] = 21 := by kernel_rfl
theorem lines1 : lines T1 = [(1, [35, 32, 104]), (2, [32, 32, 105, 110, 118, 32, 112, 49, 32, 113, 32, 101, 110, 113, 32, 51]), (3, [114, 101, 115, 32, 112, 49, 32, 116, 114, 117, 101])] := by kernel_rfl
theorem lines2 : lines T2 = [(1, T2)] := by kernel_rfl
theorem lines3 : lines T3 = [(1, []), (2, [105, 110, 118, 32, 112, 32, 113])] := by kernel_rfl
abbrev L12 : List UInt8 := [32, 32, 105, 110, 118, 32, 112, 49, 32, 113, 32, 101, 110, 113, 32, 51]
abbrev L13 : List UInt8 := [114, 101, 115, 32, 112, 49, 32, 116, 114, 117, 101]
abbrev L32 : List UInt8 := [105, 110, 118, 32, 112, 32, 113]
theorem w12 : wds 0 0 false (aheadL L12) = ⟨[105, 110, 118], 2, 3⟩ :: [⟨[112, 49], 6, 7⟩, ⟨[113], 9, 10⟩, ⟨[101, 110, 113], 11, 12⟩, ⟨[51], 15, 16⟩] := by kernel_rfl
theorem w13 : wds 0 0 false (aheadL L13) = ⟨[114, 101, 115], 0, 1⟩ :: [⟨[112, 49], 4, 5⟩, ⟨[116, 114, 117, 101], 7, 8⟩] := by kernel_rfl
theorem w21 : wds 0 0 false (aheadL T2) = ⟨[105, 110, 118], 0, 1⟩ :: [⟨[112], 4, 5⟩, ⟨[49, 113], 6, 7⟩, ⟨[101, 110, 113], 9, 10⟩, ⟨[51], 13, 14⟩] := by kernel_rfl
theorem w32 : wds 0 0 false (aheadL L32) = ⟨[105, 110, 118], 0, 1⟩ :: [⟨[112], 4, 5⟩, ⟨[113], 6, 7⟩] := by kernel_rfl
theorem nameM6_yes {p : Bool} {said : List UInt8} {x : Wd} {r : List Wd} (h : fitB p x.text = true) : nameM6 p said (x :: r) = .ok (x.text, r, x.off + x.text.length) := by
  simp only [nameM6]
  rw [if_pos h]
theorem nameM6_bad {p : Bool} {said : List UInt8} {x : Wd} {r : List Wd} (h : fitB p x.text = false) : nameM6 p said (x :: r) = .error (21, x.off) := by
  simp only [nameM6]
  rw [if_neg (by rw [h]; exact Bool.false_ne_true)]
theorem valM6_yes {said t : List UInt8} {rd : Nat} {v : Vl} (h1 : trimR (said.drop rd) = t) (h2 : parM t = .ok v) : valM6 said rd = .ok v := by
  unfold valM6
  rw [h1, h2]
theorem ah12 : aheadL L12 = L12 := by kernel_rfl
theorem ah13 : aheadL L13 = L13 := by kernel_rfl
theorem ah21 : aheadL T2 = T2 := by kernel_rfl
theorem ah32 : aheadL L32 = L32 := by kernel_rfl
theorem ev12 : evM6 (aheadL L12) 2 4 (⟨[105, 110, 118], 2, 3⟩ :: [⟨[112, 49], 6, 7⟩, ⟨[113], 9, 10⟩, ⟨[101, 110, 113], 11, 12⟩, ⟨[51], 15, 16⟩]) = .ok ea := by
  have hv : valM6 (aheadL L12) (11 + 3) = .ok (numVl 3) := valM6_yes (t := [32, 51]) (by rw [ah12]; decide) par3
  simp only [evM6]
  rw [if_pos (show ([105, 110, 118] : List UInt8) = invL from rfl)]
  rw [nameM6_yes (fitT _ rfl rfl nm_p1)]
  simp only
  rw [nameM6_yes (fitA _ nm_q)]
  simp only
  rw [nameM6_yes (fitT _ rfl rfl nm_enq)]
  simp only [List.length_cons, List.length_nil, Nat.reduceAdd] at hv ⊢
  rw [hv]
  rfl
theorem ev13 : evM6 (aheadL L13) 3 21 (⟨[114, 101, 115], 0, 1⟩ :: [⟨[112, 49], 4, 5⟩, ⟨[116, 114, 117, 101], 7, 8⟩]) = .ok eb := by
  have hv : valM6 (aheadL L13) (4 + 2) = .ok tv := valM6_yes (t := [32, 116, 114, 117, 101]) (by rw [ah13]; decide) part
  simp only [evM6]
  rw [if_neg (show ¬ ([114, 101, 115] : List UInt8) = invL by decide), if_pos (show ([114, 101, 115] : List UInt8) = resL from rfl)]
  rw [nameM6_yes (fitT _ rfl rfl nm_p1)]
  simp only [List.length_cons, List.length_nil, Nat.reduceAdd] at hv ⊢
  rw [hv]
  rfl
theorem ev21 : evM6 (aheadL T2) 1 0 (⟨[105, 110, 118], 0, 1⟩ :: [⟨[112], 4, 5⟩, ⟨[49, 113], 6, 7⟩, ⟨[101, 110, 113], 9, 10⟩, ⟨[51], 13, 14⟩]) = .error (21, 6) := by
  simp only [evM6]
  rw [if_pos (show ([105, 110, 118] : List UInt8) = invL from rfl)]
  rw [nameM6_yes (fitT _ rfl rfl nm_p)]
  simp only
  rw [nameM6_bad (by unfold fitB; rw [if_neg Bool.false_ne_true]; unfold anyB; rw [nm_1q]; rfl)]
theorem ev32 : evM6 (aheadL L32) 2 1 (⟨[105, 110, 118], 0, 1⟩ :: [⟨[112], 4, 5⟩, ⟨[113], 6, 7⟩]) = .error (60, 7) := by
  simp only [evM6]
  rw [if_pos (show ([105, 110, 118] : List UInt8) = invL from rfl)]
  rw [nameM6_yes (fitT _ rfl rfl nm_p)]
  simp only
  rw [nameM6_yes (fitA _ nm_q)]
  simp only [nameM6]
  rw [ah32]
  rfl
theorem parses1 : parsesM T1 = .ok [ea, eb] := by
  unfold parsesM
  rw [lines1, goM6_none (by kernel_rfl), goM6_more w12 ev12, goM6_more w13 ev13]
  rfl
theorem parses2 : parsesM T2 = .error (21, 6) := by
  unfold parsesM
  rw [lines2, goM6_stop w21 ev21]
theorem parses3 : parsesM T3 = .error (60, 8) := by
  unfold parsesM
  rw [lines3, goM6_none (by kernel_rfl), goM6_stop w32 ev32]
  rfl
theorem right_a : rightE ea = true := by
  have h1 : symB (bsN [112, 49]) = true := fitT [112, 49] rfl rfl nm_p1
  have h2 : anyB [113] = true := fitA [113] nm_q
  have h3 : symB (bsN [101, 110, 113]) = true := fitT [101, 110, 113] rfl rfl nm_enq
  unfold rightE
  simp only [if_true, h1, h2, h3, right_num, Bool.and_self]
theorem right_e : rightE eb = true := by
  have h1 : symB (bsN [112, 49]) = true := fitT [112, 49] rfl rfl nm_p1
  have h4 := right_b
  unfold rightE
  rw [if_neg (by decide), if_pos rfl]
  simp only [h1, h4, List.isEmpty_nil, Bool.and_self]
theorem all_ab : [ea, eb].all rightE = true := by
  simp only [List.all_cons, List.all_nil, right_a, right_e, Bool.and_self]
theorem prl_ab : prL [ea, eb] = TP := by
  unfold prL lnE
  simp only [List.map_cons, List.map_nil, if_true]
  rw [if_neg (by decide), pr_int, it3, pr_true]
  kernel_rfl
theorem dec_ab : decL6 (encL [ea, eb]) = some ([ea, eb].map unsE) := by
  refine decL6_enc (by decide) (fun e he => ?_)
  simp only [List.mem_cons, List.not_mem_nil, or_false] at he
  rcases he with rfl | rfl
  · exact ⟨right_a, ⟨by decide, by decide, by decide, ok3⟩, okD_leaf _ _ _ _ ok3⟩
  · exact ⟨right_e, ⟨by decide, by decide, by decide, okt⟩, okD_leaf _ _ _ _ okt⟩
theorem simB_uns (e : Evn) (h : rightV e.val = true) : simB e (unsE e) = true := by
  unfold simB unsE
  simp only [beq_self_eq_true, h, Bool.true_and, ordV_self, decide_true]
theorem same_ab : sameB [ea, eb] ([ea, eb].map unsE) = true := by
  unfold sameB
  simp only [List.map_cons, List.map_nil, List.zipWith_cons_cons, List.zipWith_nil_left, List.all_cons, List.all_nil, id]
  rw [simB_uns ea (right_num 3), simB_uns eb right_b]
  rfl
theorem uv_len (n : Nat) (h : n < 18446744073709551616) : (uvarint n).length ≤ 10 := uvarint_length64 h
theorem encV3 : (encV (numVl 3)).length ≤ 100 := by
  rw [encV_eq]
  simp [zz, uv6]
theorem encVt : (encV tv).length ≤ 100 := by
  rw [encV_eq]
  simp
theorem enc_len_ab : (encL [ea, eb]).length ≤ 1048576 := by
  have h1 := encV3
  have h2 := encVt
  have u2 := uv_len 2 (by decide)
  have u1 := uv_len 1 (by decide)
  have u3 := uv_len 3 (by decide)
  have e1 : (encE ea).length = 1 + ((uvarint 2).length + 2 + ((uvarint 1).length + 1 + ((uvarint 3).length + 3) + (encV (numVl 3)).length)) := by
    unfold encE txt
    rw [if_pos rfl]
    simp only [List.length_append, List.length_cons, bsN_size, List.length_nil, Nat.reduceAdd, Nat.zero_add]
    omega
  have e2 : (encE eb).length = 1 + ((uvarint 2).length + 2 + (encV tv).length) := by
    unfold encE txt
    rw [if_neg (by decide)]
    simp only [List.length_append, List.length_cons, bsN_size, List.length_nil, Nat.reduceAdd, Nat.zero_add]
    omega
  have e3 : (encL [ea, eb]).length = (uvarint 2).length + ((encE ea).length + (encE eb).length) := by
    unfold encL
    simp only [List.length_append, List.map_cons, List.map_nil, List.flatten_cons, List.flatten_nil, List.length_cons, List.length_nil, Nat.reduceAdd, Nat.zero_add]
    omega
  omega
theorem f2c : fcells T2 21 6 = #[.int .i64 21, .int .i64 6, .int .i64 1, .int .i64 7] := by kernel_rfl
theorem f3c : fcells T3 60 8 = #[.int .i64 60, .int .i64 8, .int .i64 2, .int .i64 8] := by kernel_rfl
theorem num6_k (x : Int) (w : World) : Calls Tryz.prog 5 #[.int .i64 x] w fun e w' => e = .returned (.int .i64 x) ∧ w = w' := by
  go_enter Tryz.func5, Tryz.ntmps5
  go_wp2
  go_ret
  exact ⟨rfl, rfl⟩
end Go.Proofs.YthmhcpghfbifiaaGreatDoor

/- What must come in layer 6, whatever else is so: alive answers true. -/
namespace Go.Proofs.YthmhcpghfbifiaaGreatDoor
open Go.RowKit
open Go.Lib (uvarint)

theorem pr_take_le (l : List Evn) (k : Nat) : (prL (l.take k)).length ≤ (prL l).length := by
  have e : prL l = prL (l.take k) ++ prL (l.drop k) := by
    unfold prL
    rw [← List.flatten_append, ← List.map_append, List.take_append_drop]
  rw [e, List.length_append]
  omega
theorem enc_take_le (l : List Evn) (k : Nat) : (uvarint l.length ++ ((l.take k).map encE).flatten).length ≤ (encL l).length := by
  have e : (l.map encE).flatten = ((l.take k).map encE).flatten ++ ((l.drop k).map encE).flatten := by
    rw [← List.flatten_append, ← List.map_append, List.take_append_drop]
  unfold encL
  rw [e, List.length_append, List.length_append, List.length_append]
  omega
theorem fe0 (w : World) : (binOp BinOp.eql 34 (.agg #[.int .i64 0, .int .i64 0, .int .i64 0, .int .i64 0]) (.agg #[.int .i64 0, .int .i64 0, .int .i64 0, .int .i64 0])).run Tryz.prog w = .ok (.bool true) w := by kernel_rfl
theorem fe2 (w : World) : (binOp BinOp.eql 34 (.agg #[.int .i64 21, .int .i64 6, .int .i64 1, .int .i64 7]) (.agg #[.int .i64 21, .int .i64 6, .int .i64 1, .int .i64 7])).run Tryz.prog w = .ok (.bool true) w := by kernel_rfl
theorem fe3 (w : World) : (binOp BinOp.eql 34 (.agg #[.int .i64 60, .int .i64 8, .int .i64 2, .int .i64 8]) (.agg #[.int .i64 60, .int .i64 8, .int .i64 2, .int .i64 8])).run Tryz.prog w = .ok (.bool true) w := by kernel_rfl
theorem fe4 (w : World) : (binOp BinOp.eql 32 (.agg #[.int .i64 6, .int .i64 2, .int .i64 3]) (.agg #[.int .i64 6, .int .i64 2, .int .i64 3])).run Tryz.prog w = .ok (.bool true) w := by kernel_rfl
set_option maxRecDepth 100000 in
set_option maxHeartbeats 1000000 in
theorem alive6_k (w : World) (hT : Tabs w) :
    Calls Tryz.prog 6 #[] w fun e w' => e = .returned (.bool true) ∧ Below w.heap.size w w' := by
  have q0 := fe0
  have q2 := fe2
  have q3 := fe3
  have q4 := fe4
  have HT := hide (fun (U : World) (b : Below w.heap.size w U) => hT.below b)
  have HP1 := hide (parse6_k w T1 (by decide) hT)
  have HP2 := hide (fun (U : World) (b : Below w.heap.size w U) => parse6_k U T2 (by decide) (hT.below b))
  have HP3 := hide (fun (U : World) (b : Below w.heap.size w U) => parse6_k U T3 (by decide) (hT.below b))
  obtain ⟨l, hl⟩ : ∃ l : List Evn, [ea, eb] = l := ⟨_, rfl⟩
  obtain ⟨m, hm0⟩ : ∃ m : List Evn, [ea, eb].map unsE = m := ⟨_, rfl⟩
  have hlen : l.length = 2 := by rw [← hl]; rfl
  have hmlen : m.length = 2 := by rw [← hm0]; rfl
  have hal := all_ab
  have hpl := prl_ab
  have hdc := dec_ab
  have hsm := same_ab
  have hel := enc_len_ab
  have hp1 := parses1
  rw [hm0] at hdc hsm
  rw [hl] at hal hpl hdc hsm hel hp1
  have HL0 : Hid (l[0]'(by omega) = ea) := by subst hl; rfl
  obtain ⟨EL, hEL⟩ : ∃ EL, encL l = EL := ⟨_, rfl⟩
  rw [hEL] at hdc hel
  have HPR := hide (fun (U : World) (sl : Value) (b : Below w.heap.size w U) (h : EvsAt U U.heap.size 16 sl l) => print6_k l U 16 sl (hT.below b) h (fun k _ _ => by have := pr_take_le l k; rw [hpl] at this; have h2 : TP.length = 27 := rfl; omega))
  have HEN := hide (fun (U : World) (sl : Value) (b : Below w.heap.size w U) (h : EvsAt U U.heap.size 16 sl l) => encode6_k l U 16 sl (hT.below b) h (fun k _ _ => by have := enc_take_le l k; rw [hEL] at this; omega))
  have HDE := hide (fun (U : World) (sl : Value) (b : Below w.heap.size w U) (h : BytesIn U 0 U.heap.size sl EL) => decode6_k U sl EL h hel (hT.below b))
  have HSA := hide (fun (U : World) (s1 s2 : Value) (b : Below w.heap.size w U) (h1 : EvsAt U U.heap.size 16 s1 l) (h2 : EvsAt U U.heap.size 4097 s2 m) => same6_k l m U 16 4097 s1 s2 (hT.below b) h1 h2)
  unfold Pa6 at HP1 HP2 HP3
  rw [show parsesM T1 = _ from hp1] at HP1
  rw [parses2] at HP2
  rw [parses3] at HP3
  simp only at HP1
  simp only [f2c] at HP2
  simp only [f3c] at HP3
  unfold PrR at HPR
  unfold EncR at HEN
  unfold De6 at HDE
  simp only [hal, if_true, hpl, hEL] at HPR HEN
  simp only [hdc] at HDE
  simp only [hsm] at HSA
  clear hT hal hpl hdc hsm hp1 hl hm0 hEL hel
  have htp : (str TP).toList = [105, 110, 118, 32, 112, 49, 32, 113, 32, 101, 110, 113, 32, 51, 10, 114, 101, 115, 32, 112, 49, 32, 116, 114, 117, 101, 10] := bsN_toList TP
  go_enter Tryz.func6, Tryz.ntmps6
  go_wp2_with (first
    | (go_at_call 10; refine HP1.out.mono ?_; clear HP1; rintro e w1 ⟨b1, v1, rfl, mk1⟩; obtain ⟨va, vc, rfl⟩ := mk1.len; obtain ⟨W1, hW1⟩ : ∃ W1, w1.alloc (.cells #[.int .i64 0, .int .i64 0, .int .i64 0, .int .i64 0] 34) = W1 := ⟨_, rfl⟩; have bA : Below w1.heap.size w1 W1 := (by rw [← hW1]; exact alloc_v (Below.refl _ _) _); have f1 : W1.heap[w1.heap.size]? = some (.cells #[.int .i64 0, .int .i64 0, .int .i64 0, .int .i64 0] 34 (0, 0)) := (by rw [← hW1]; exact World.alloc_heap_new w1 _); have ev1 := ((mk1.evs (by omega)).below bA).up bA.size; rw [hlen] at ev1; have BW1 := trans_v b1 bA; have HPR1 := hide (HPR.out W1 _ BW1 ev1); have S1 := hide (And.intro BW1 (And.intro ev1 f1)); clear HPR b1 mk1 bA f1 ev1 BW1; subst hW1)
    | (go_at_call 4; refine HPR1.out.mono ?_; clear HPR1; rintro e w2 ⟨b2, rfl⟩; have BW2 := trans_v S1.out.1 b2; have ev2 := (S1.out.2.1.below b2).up b2.size; have HEN2 := hide (HEN.out w2 _ BW2 ev2); have S2 := hide (And.intro BW2 (And.intro ev2 b2)); clear HEN b2 BW2 ev2)
    | (go_at_call 17; refine HEN2.out.mono ?_; clear HEN2; rintro e w3 ⟨ba, bc, rfl, o3, b3⟩; have BW3 := trans_v S2.out.1 b3; have by3 := (ownsRow_bytes o3).2.mono (fun _ _ _ _ => rfl) (Nat.zero_le _) (Nat.le_refl _); have HDE3 := hide (HDE.out w3 _ BW3 by3); have S3 := hide (And.intro BW3 b3); clear HDE o3 b3 BW3 by3)
    | (go_at_call 18; refine HDE3.out.mono ?_; clear HDE3; rintro e w4 ⟨b4, v4, rfl, mk4⟩; obtain ⟨da, dc, rfl⟩ := mk4.len; have BW4 := trans_v S3.out.1 b4; have HP24 := hide (HP2.out w4 BW4); have dv4 := mk4.evs (by omega); rw [hmlen] at dv4; have S4 := hide (And.intro BW4 (And.intro b4 dv4)); clear HP2 b4 mk4 BW4 dv4)
    | (go_at_call 10; refine HP24.out.mono ?_; clear HP24; rintro e w5 ⟨b5, rfl⟩; obtain ⟨W5, hW5⟩ : ∃ W5, w5.alloc (.cells #[.int .i64 21, .int .i64 6, .int .i64 1, .int .i64 7] 34) = W5 := ⟨_, rfl⟩; have bA : Below w5.heap.size w5 W5 := (by rw [← hW5]; exact alloc_v (Below.refl _ _) _); have f5 : W5.heap[w5.heap.size]? = some (.cells #[.int .i64 21, .int .i64 6, .int .i64 1, .int .i64 7] 34 (0, 0)) := (by rw [← hW5]; exact World.alloc_heap_new w5 _); have BW5 := trans_v S4.out.1 (trans_v b5 bA); have HP35 := hide (HP3.out W5 BW5); have S5 := hide (And.intro BW5 (And.intro (trans_v b5 bA) f5)); clear HP3 b5 bA f5 BW5; subst hW5)
    | (go_at_call 10; refine HP35.out.mono ?_; clear HP35; rintro e w6 ⟨b6, rfl⟩; obtain ⟨W6, hW6⟩ : ∃ W6, w6.alloc (.cells #[.int .i64 60, .int .i64 8, .int .i64 2, .int .i64 8] 34) = W6 := ⟨_, rfl⟩; have bA : Below w6.heap.size w6 W6 := (by rw [← hW6]; exact alloc_v (Below.refl _ _) _); have f6 : W6.heap[w6.heap.size]? = some (.cells #[.int .i64 60, .int .i64 8, .int .i64 2, .int .i64 8] 34 (0, 0)) := (by rw [← hW6]; exact World.alloc_heap_new w6 _); have b56 := trans_v b6 bA; have b46 := trans_v S5.out.2.1 b56; have b26 := trans_v S3.out.2 (trans_v S4.out.2.1 b46); have b16 := trans_v S2.out.2.2 b26; have BW6 := trans_v S5.out.1 b56; have F1 := (b16.block _ (Array.getElem?_eq_some_iff.1 S1.out.2.2).1).trans S1.out.2.2; have F5 := (b56.block _ (Array.getElem?_eq_some_iff.1 S5.out.2.2).1).trans S5.out.2.2; have c0 := cells_at F1 0 _ rfl; have c1 := cells_at F1 1 _ rfl; have c2 := cells_at F1 2 _ rfl; have c3 := cells_at F1 3 _ rfl; have ev6 := (S2.out.2.1.below b26).up b26.size; have dv6 := (S4.out.2.2.below b46).up b46.size; obtain ⟨gb, go, gs, rfl, _, _, _, _, _, _, _, _, _, _, x9, x10, x11, _⟩ := ev6.item 0 (by omega); rw [HL0.out] at x9 x10 x11; simp only [Nat.zero_mul, Nat.add_zero] at x9 x10 x11; have HS6 := hide (HSA.out W6 _ _ BW6 ev6 dv6); have S6 := hide (And.intro BW6 (And.intro F5 f6)); clear HSA b6 bA f6 b56 b46 b26 b16 BW6 F1 F5 ev6 dv6; subst hW6)
    | (go_at_call 5; refine (num6_k _ _).mono ?_; rintro e wq ⟨rfl, rfl⟩)
    | (go_at_call 11; refine HS6.out.mono ?_; clear HS6; rintro e w7 ⟨rfl, b7⟩; have F5 := (b7.block _ (Array.getElem?_eq_some_iff.1 S6.out.2.1).1).trans S6.out.2.1; have F6 := (b7.block _ (Array.getElem?_eq_some_iff.1 S6.out.2.2).1).trans S6.out.2.2; have u0 := cells_at F5 0 _ rfl; have u1 := cells_at F5 1 _ rfl; have u2 := cells_at F5 2 _ rfl; have u3 := cells_at F5 3 _ rfl; have t0 := cells_at F6 0 _ rfl; have t1 := cells_at F6 1 _ rfl; have t2 := cells_at F6 2 _ rfl; have t3 := cells_at F6 3 _ rfl; have B7 := hide (trans_v S6.out.1 b7); clear b7 F5 F6))
  go_ret
  exact ⟨rfl, B7.out⟩
end Go.Proofs.YthmhcpghfbifiaaGreatDoor
