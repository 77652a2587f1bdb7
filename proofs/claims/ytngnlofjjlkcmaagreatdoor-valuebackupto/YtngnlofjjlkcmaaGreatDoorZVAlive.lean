/- alive answers true. -/
import Derived.Test.YtngnlofjjlkcmaaGreatDoorGAlive
namespace Go.Proofs.YtngnlofjjlkcmaaGreatDoor
open Go.RowKit

/-- A value that lies in a block of its own, and its items. -/
def Keeps (W : World) (b : Nat) (a : Option Addr) (c n : Nat) : Prop := W.heap[b]? = some (.cells (vcells sv (.slice a 2 c)) 26 (0, 0)) ∧ ItemsAt W W.heap.size n (.slice a 2 c) sv.items
theorem Keeps.below {W W' : World} {b c n : Nat} {a : Option Addr} (h : Keeps W b a c n) (hb : Below W.heap.size W W') : Keeps W' b a c n :=
  ⟨(hb.block _ (Array.getElem?_eq_some_iff.1 h.1).1).trans h.1, (h.2.below hb).up hb.size⟩
theorem Keeps.new (W : World) (a : Option Addr) (c n : Nat) (h : ItemsAt W W.heap.size n (.slice a 2 c) sv.items) : Keeps (W.alloc (.cells (vcells sv (.slice a 2 c)) 26)) W.heap.size a c n :=
  ⟨World.alloc_heap_new W _, (h.below (alloc_v (Below.refl _ _) _)).up (by simp)⟩
theorem Keeps.cells {W : World} {b c n : Nat} {a : Option Addr} (h : Keeps W b a c n) : W.cell? ⟨b, 0, none⟩ = some (.int .i64 7) ∧ W.cell? ⟨b, 1, none⟩ = some (.int .i64 0) ∧ W.cell? ⟨b, 2, none⟩ = some (.int .i64 0) ∧ W.cell? ⟨b, 3, none⟩ = some (.string ⟨#[]⟩) ∧ W.cell? ⟨b, 4, none⟩ = some (.slice a 2 c) :=
  ⟨cells_at h.1 0 _ rfl, cells_at h.1 1 _ rfl, cells_at h.1 2 _ rfl, cells_at h.1 3 _ rfl, cells_at h.1 4 _ rfl⟩
theorem gauss_34 (w : World) : Calls Tryz.prog 23 #[.int .i64 3, .int .i64 (-4)] w fun e w' => e = .returned (.tuple #[.agg (vcells ⟨3, 3, -4, ⟨#[]⟩, []⟩ (.slice none 0 0)), .int .i64 0]) ∧ Below w.heap.size w w' := by
  refine (gauss_k 3 (-4) w).mono ?_
  rintro e w' ⟨rfl, hb⟩
  exact ⟨by rw [show gaussB 3 (-4) = true by decide]; rfl, hb⟩
/-- A fault that lies in a block of its own. -/
def FaultIs (W : World) (b : Nat) (cs : Array Value) : Prop := W.heap[b]? = some (.cells cs 44 (0, 0))
theorem FaultIs.below {W W' : World} {b : Nat} {cs : Array Value} (h : FaultIs W b cs) (hb : Below W.heap.size W W') : FaultIs W' b cs := (hb.block _ (Array.getElem?_eq_some_iff.1 h).1).trans h
theorem FaultIs.cells {W : World} {b : Nat} {x y z t : Value} (h : FaultIs W b #[x, y, z, t]) : W.cell? ⟨b, 0, none⟩ = some x ∧ W.cell? ⟨b, 1, none⟩ = some y ∧ W.cell? ⟨b, 2, none⟩ = some z ∧ W.cell? ⟨b, 3, none⟩ = some t := ⟨cells_at h 0 _ rfl, cells_at h 1 _ rfl, cells_at h 2 _ rfl, cells_at h 3 _ rfl⟩
theorem FaultIs.new (W : World) (o : Obj) (cs : Array Value) : FaultIs ((W.alloc o).alloc (.cells cs 44)) (W.heap.size + 1) cs := by
  have := World.alloc_heap_new (W.alloc o) (.cells cs 44)
  rwa [World.size_alloc] at this
set_option maxRecDepth 100000 in
set_option maxHeartbeats 8000000 in
theorem alive4_k (w : World) (hT : Tabs w) : Calls Tryz.prog 10 #[] w fun e w' => e = .returned (.bool true) ∧ Below w.heap.size w w' := by
  have HT := hide (fun (U : World) (b : Below w.heap.size w U) => hT.below b)
  have BB := hide (Below.refl w.heap.size w)
  clear hT
  go_enter Tryz.func10, Tryz.ntmps10
  go_wp2_with (go_at_call 22; refine (int_k _ _).mono ?_; rintro e w1 ⟨rfl, b1⟩; have BN := hide (trans_v BB.out b1); clear BB b1; have BB := BN; clear BN)
  go_wp2_with (go_at_call 21; refine (set_313 _ (HT.out _ BB.out)).mono ?_; rintro e w5 ⟨sa, sc, rfl, i5, b5⟩; have BN := hide (alloc_v (trans_v BB.out b5) (.cells (vcells sv (.slice sa 2 sc)) 26)); have KS := hide (Keeps.new w5 sa sc 2 (i5.at (fun b h => h.2))); clear BB b5 i5; have BB := BN; clear BN)
  generalize w5.heap.size = sb at *
  go_wp2_with (go_at_call 11; refine (encode_sv _ _ (HT.out _ BB.out) KS.out.2).mono ?_; rintro e w7 ⟨bv, rfl, y7, b7⟩; obtain ⟨ba, bc, rfl, _⟩ := id y7; have BN := hide (trans_v BB.out b7); have KN := hide (KS.out.below b7); have BY := hide y7; clear BB b7 KS y7; have BB := BN; have KS := KN; clear BN KN)
  go_wp2_with (go_at_call 6; refine (decode_sv _ _ (HT.out _ BB.out) BY.out).mono ?_; rintro e w8 ⟨va, vc, rfl, i8, b8⟩; have b8' := alloc_v b8 (.cells (vcells sv (.slice va 2 vc)) 26); have BN := hide (trans_v BB.out b8'); have KN := hide (KS.out.below b8'); have KV := hide (Keeps.new w8 va vc 3 i8); have BYN := hide (BY.out.plain.later b8'); clear BB b8 b8' KS i8 BY; have BB := BN; have KS := KN; have BY := BYN; obtain ⟨s0, s1, s2, s3, s4⟩ := KS.out.cells; clear BN KN BYN)
  generalize w8.heap.size = vb at *
  go_wp2_with (go_at_call 12; refine (print_sv _ _ (HT.out _ BB.out) KS.out.2).mono ?_; rintro e w9 ⟨rfl, b9⟩; have BN := hide (trans_v BB.out b9); have KN := hide (KS.out.below b9); have KVN := hide (KV.out.below b9); have BYN := hide (BY.out.later b9); clear BB b9 KS KV BY s0 s1 s2 s3 s4; have BB := BN; have KS := KN; have KV := KVN; have BY := BYN; clear BN KN KVN BYN)
  go_wp2_with (go_at_call 14; refine (parse_1 _ (HT.out _ BB.out)).mono ?_; rintro e w10 ⟨pa, pc, rfl, i10, b10⟩; have b10' := alloc_v (alloc_v b10 (.cells (vcells sv (.slice pa 2 pc)) 26)) (.cells fz 44); have KP := hide ((Keeps.new w10 pa pc 2 i10).below (alloc_v (Below.refl _ _) (.cells fz 44))); have FB := hide (FaultIs.new w10 (.cells (vcells sv (.slice pa 2 pc)) 26) fz); have KSN := hide (KS.out.below b10'); have KVN := hide (KV.out.below b10'); have BYN := hide (BY.out.later b10'); have BN := hide (trans_v BB.out b10'); clear BB KS KV BY; have BB := BN; have KS := KSN; have KV := KVN; have BY := BYN; clear BN KSN KVN BYN b10' b10 i10)
  generalize w10.heap.size = pb at *
  go_wp2_with (go_at_call 23; refine (gauss_34 _).mono ?_; rintro e w11 ⟨rfl, b11⟩; have b11' := alloc_v b11 (.cells (vcells ⟨3, 3, -4, ⟨#[]⟩, []⟩ (.slice none 0 0)) 26); have KSN := hide (KS.out.below b11'); have KVN := hide (KV.out.below b11'); have KPN := hide (KP.out.below b11'); have FBN := hide (FB.out.below b11'); have BYN := hide (BY.out.later b11'); have BN := hide (trans_v BB.out b11'); clear BB KS KV KP FB BY; have BB := BN; have KS := KSN; have KV := KVN; have KP := KPN; have FB := FBN; have BY := BYN; clear BN KSN KVN KPN FBN BYN b11' b11)
  go_wp2_with (go_at_call 12; refine (print_g _ (HT.out _ BB.out)).mono ?_; rintro e w12 ⟨rfl, b12⟩; have KSN := hide (KS.out.below b12); have KVN := hide (KV.out.below b12); have KPN := hide (KP.out.below b12); have FBN := hide (FB.out.below b12); have BYN := hide (BY.out.later b12); have BN := hide (trans_v BB.out b12); clear BB KS KV KP FB BY; have BB := BN; have KS := KSN; have KV := KVN; have KP := KPN; have FB := FBN; have BY := BYN; clear BN KSN KVN KPN FBN BYN b12)
  go_wp2_with (go_at_call 14; refine (parse_2 _ (HT.out _ BB.out)).mono ?_; rintro e w13 ⟨fx, fy, rfl, b13⟩; have b13' := alloc_v (alloc_v b13 (.cells zcells 26)) (.cells #[.int .i64 41, .int .i64 2, .int .i64 fx, .int .i64 fy] 44); have FH := hide (FaultIs.new w13 (.cells zcells 26) #[.int .i64 41, .int .i64 2, .int .i64 fx, .int .i64 fy]); have KSN := hide (KS.out.below b13'); have KVN := hide (KV.out.below b13'); have KPN := hide (KP.out.below b13'); have FBN := hide (FB.out.below b13'); have BYN := hide (BY.out.later b13'); have BN := hide (trans_v BB.out b13'); clear BB KS KV KP FB BY; have BB := BN; have KS := KSN; have KV := KVN; have KP := KPN; have FB := FBN; have BY := BYN; clear BN KSN KVN KPN FBN BYN b13' b13)
  have hcv := conv_bytes BY.out
  simp only [List.length_cons, List.length_nil, Nat.reduceAdd] at hcv
  have hcv' : (convert 22 9 (.slice ba 6 bc)).run Tryz.prog _ = .ok (.string ⟨#[7, 2, 2, 2, 2, 6]⟩) _ := hcv
  have heq : ∀ w : World, (binOp BinOp.eql 44 (.agg #[.int .i64 0, .int .i64 0, .int .i64 0, .int .i64 0]) (.agg #[.int .i64 0, .int .i64 0, .int .i64 0, .int .i64 0])).run Tryz.prog w = .ok (.bool true) w := fun _ => by kernel_rfl
  obtain ⟨s0, s1, s2, s3, s4⟩ := KS.out.cells
  obtain ⟨v0, v1, v2, v3, v4⟩ := KV.out.cells
  have HA1 := hide (alike_sv _ va vc sa sc 3 2 KV.out.2 KS.out.2)
  generalize w13.heap.size = hb at *
  clear hcv BY KV
  go_wp2_with (first
    | (go_at_call 8; refine (num4_k _ _).mono ?_; rintro e wq ⟨rfl, rfl⟩)
    | (go_at_call 9; refine HA1.out.mono ?_; clear HA1 hcv' s0 s1 s2 s3 s4 v0 v1 v2 v3 v4; rintro e w15 ⟨rfl, b15⟩; have KSN := hide (KS.out.below b15); have KPN := hide (KP.out.below b15); have FBN := hide (FB.out.below b15); have FHN := hide (FH.out.below b15); have BN := hide (trans_v BB.out b15); clear BB KS KP FB FH; have BB := BN; have KS := KSN; have KP := KPN; have FB := FBN; have FH := FHN; clear BN KSN KPN FBN FHN b15; obtain ⟨s0, s1, s2, s3, s4⟩ := KS.out.cells; obtain ⟨v0, v1, v2, v3, v4⟩ := KP.out.cells; obtain ⟨f0, f1, f2, f3⟩ := FB.out.cells; have HA2 := hide (alike_sv _ pa pc sa sc 2 2 KP.out.2 KS.out.2); clear KP FB))
  go_wp2_with (first
    | (go_at_call 8; refine (num4_k _ _).mono ?_; rintro e wq ⟨rfl, rfl⟩)
    | (go_at_call 9; refine HA2.out.mono ?_; clear HA2 s0 s1 s2 s3 s4 v0 v1 v2 v3 v4 f0 f1 f2 f3 heq; rintro e w16 ⟨rfl, b16⟩; have KSN := hide (KS.out.below b16); have FHN := hide (FH.out.below b16); have BN := hide (trans_v BB.out b16); clear BB KS FH; have BB := BN; have KS := KSN; have FH := FHN; clear BN KSN FHN b16; obtain ⟨f0, f1, f2, f3⟩ := FH.out.cells; clear FH))
  go_wp2_with (go_at_call 24; refine (bool_k true _).mono ?_; clear f0 f1 f2 f3; rintro e w17 ⟨rfl, b17⟩; have KSN := hide (KS.out.below b17); have BN := hide (trans_v BB.out b17); clear BB KS; have BB := BN; have KS := KSN; clear BN KSN b17)
  go_wp2_with (go_at_call 22; refine (int_k (-9) _).mono ?_; rintro e w18 ⟨rfl, b18⟩; have KSN := hide (KS.out.below b18); have BN := hide (trans_v BB.out b18); clear BB KS; have BB := BN; have KS := KSN; clear BN KSN b18)
  go_wp2_with (go_at_call 15; refine (compare_9 _ (HT.out _ BB.out)).mono ?_; rintro e w19 ⟨rfl, b19⟩; have KSN := hide (KS.out.below b19); have BN := hide (trans_v BB.out b19); clear BB KS; have BB := BN; have KS := KSN; clear BN KSN b19)
  go_wp2_with (go_at_call 13; refine (check_9 _ (HT.out _ BB.out)).mono ?_; rintro e w20 ⟨rfl, b20⟩; have KSN := hide (KS.out.below b20); have BN := hide (trans_v BB.out b20); clear BB KS; have BB := BN; have KS := KSN; clear BN KSN b20; obtain ⟨s0, s1, s2, s3, s4⟩ := KS.out.cells)
  go_wp2_with (first
    | (go_at_call 8; refine (num4_k _ _).mono ?_; rintro e wq ⟨rfl, rfl⟩)
    | (go_at_call 25; refine (nodes_sv _ _ (HT.out _ BB.out) KS.out.2).mono ?_; clear s0 s1 s2 s3 s4; rintro e w21 ⟨rfl, b21⟩; have KSN := hide (KS.out.below b21); have BN := hide (trans_v BB.out b21); clear BB KS; have BB := BN; have KS := KSN; clear BN KSN b21; obtain ⟨s0, s1, s2, s3, s4⟩ := KS.out.cells)
    | (go_at_call 26; refine (deep_sv _ _ (HT.out _ BB.out) KS.out.2).mono ?_; clear s0 s1 s2 s3 s4; rintro e w22 ⟨rfl, b22⟩; have KSN := hide (KS.out.below b22); have BN := hide (trans_v BB.out b22); clear BB KS; have BB := BN; have KS := KSN; clear BN KSN b22))
  go_ret
  exact ⟨rfl, BB.out⟩
end Go.Proofs.YtngnlofjjlkcmaaGreatDoor
