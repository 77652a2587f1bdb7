/- Parse of events. -/
import Derived.Test.YthmhcpghfbifiaaGreatDoorGEE
namespace Go.Proofs.YthmhcpghfbifiaaGreatDoor
open Go.RowKit
attribute [local go_sem] Oper.semAt_some

/-- What Parse comes to. -/
def Pa6 (w : World) (s : List UInt8) (e : Ending) (w' : World) : Prop := Below w.heap.size w w' ∧ match parsesM s with
  | .ok l => ∃ v, e = .returned (.tuple #[v, .agg fz]) ∧ EvMk w' w.heap.size 16 v l
  | .error (c, o) => e = .returned (.tuple #[.slice none 0 0, .agg (fcells s c o)])
/-- How far Parse has come. -/
def PaJ (w : World) (s : List UInt8) (pre : List (Nat × List UInt8)) (W : World) : Prop := ∃ acc v, PaI w s (stL pre) acc v W ∧ acc.length ≤ pre.length ∧ ∀ post, lines s = pre ++ post → parsesM s = goM6 acc (stL pre) post
/-- How Parse gives up. -/
def PaP (w : World) (s : List UInt8) (c : List PanicEntry) (_ : List (Nat × List UInt8)) (W : World) : Prop := ∃ k o, c = [{ v := faultV s k o, recovered := false }] ∧ parsesM s = .error (k, o) ∧ (∃ v, W.heap[w.heap.size + 1]? = some (.cells #[v] 22 (0, 0))) ∧ W.heap[w.heap.size + 2]? = some (.cells fz 34 (0, 0)) ∧ Below w.heap.size w W
theorem pa_start (w W0 : World) (s : List UInt8) (hW0 : (((((w.alloc (.cells #[.string (str s)] 9)).alloc (.cells #[.slice none 0 0] 22)).alloc (.cells fz 34)).alloc (.cells #[.int .i64 0] 3)).alloc (.cells #[.string (str s)] 9)) = W0) :
    W0.heap.size = w.heap.size + 5 ∧ Below w.heap.size w W0 ∧ W0.heap[w.heap.size]? = some (.cells #[.string (str s)] 9 (0, 0)) ∧ W0.heap[w.heap.size + 1]? = some (.cells #[.slice none 0 0] 22 (0, 0)) ∧ W0.heap[w.heap.size + 2]? = some (.cells fz 34 (0, 0)) ∧ W0.heap[w.heap.size + 3]? = some (.cells #[.int .i64 0] 3 (0, 0)) ∧ W0.heap[w.heap.size + 4]? = some (.cells #[.string (str s)] 9 (0, 0)) := by
  subst hW0
  obtain ⟨w1, h1⟩ : ∃ w1, w.alloc (.cells #[.string (str s)] 9) = w1 := ⟨_, rfl⟩
  obtain ⟨w2, h2⟩ : ∃ w2, w1.alloc (.cells #[.slice none 0 0] 22) = w2 := ⟨_, rfl⟩
  obtain ⟨w3, h3⟩ : ∃ w3, w2.alloc (.cells fz 34) = w3 := ⟨_, rfl⟩
  obtain ⟨w4, h4⟩ : ∃ w4, w3.alloc (.cells #[.int .i64 0] 3) = w4 := ⟨_, rfl⟩
  rw [h1, h2, h3, h4]
  have z1 : w1.heap.size = w.heap.size + 1 := by rw [← h1]; simp
  have z2 : w2.heap.size = w.heap.size + 2 := by rw [← h2]; simp; omega
  have z3 : w3.heap.size = w.heap.size + 3 := by rw [← h3]; simp; omega
  have z4 : w4.heap.size = w.heap.size + 4 := by rw [← h4]; simp; omega
  have e1 : w1.heap[w.heap.size]? = some (.cells #[.string (str s)] 9 (0, 0)) := by rw [← h1]; exact World.alloc_heap_new w _
  have e2 : w2.heap[w.heap.size + 1]? = some (.cells #[.slice none 0 0] 22 (0, 0)) := by rw [← h2, ← z1]; exact World.alloc_heap_new w1 _
  have e3 : w3.heap[w.heap.size + 2]? = some (.cells fz 34 (0, 0)) := by rw [← h3, ← z2]; exact World.alloc_heap_new w2 _
  have e4 : w4.heap[w.heap.size + 3]? = some (.cells #[.int .i64 0] 3 (0, 0)) := by rw [← h4, ← z3]; exact World.alloc_heap_new w3 _
  have b1 : Below w.heap.size w w1 := by rw [← h1]; exact alloc_v (Below.refl _ _) _
  have b2 : Below w1.heap.size w1 w2 := by rw [← h2]; exact alloc_v (Below.refl _ _) _
  have b3 : Below w2.heap.size w2 w3 := by rw [← h3]; exact alloc_v (Below.refl _ _) _
  have b4 : Below w3.heap.size w3 w4 := by rw [← h4]; exact alloc_v (Below.refl _ _) _
  have b5 : Below w4.heap.size w4 (w4.alloc (.cells #[.string (str s)] 9)) := alloc_v (Below.refl _ _) _
  refine ⟨by simp; omega, trans_v b1 (trans_v b2 (trans_v b3 (trans_v b4 b5))), ?_, ?_, ?_, ?_, ?_⟩
  · exact (b5.block _ (by omega)).trans ((b4.block _ (by omega)).trans ((b3.block _ (by omega)).trans ((b2.block _ (by omega)).trans e1)))
  · exact (b5.block _ (by omega)).trans ((b4.block _ (by omega)).trans ((b3.block _ (by omega)).trans e2))
  · exact (b5.block _ (by omega)).trans ((b4.block _ (by omega)).trans e3)
  · exact (b5.block _ (by omega)).trans e4
  · rw [← z4]; exact World.alloc_heap_new w4 _
theorem load_evs {w : World} {g : Nat} {x : Value} (h : w.heap[g]? = some (.cells #[x] 22 (0, 0))) : (loadVar 22 ⟨g, 0, none⟩).run Tryz.prog w = .ok x w := by
  have c := cells_at h 0 _ rfl
  simp [go_sem, c]
theorem EvMk.down {w : World} {L L' n : Nat} {v : Value} {l : List Evn} (h : EvMk w L n v l) (hL : L' ≤ L) : EvMk w L' n v l := by
  obtain ⟨E, hE, hr, hi⟩ := h
  exact ⟨E, hE, row_base hr hL, fun x hx => ⟨(hi x hx).1.kept (fun _ _ _ => rfl) (fun b hb => ⟨by omega, hb.2⟩), (hi x hx).2⟩⟩
theorem paJ_own (w : World) (s : List UInt8) (W0 : World) (hz : W0.heap.size = w.heap.size + 5) : OwnB W0.heap.size (W0.heap.size + 2) (fun _ => True) (PaJ w s) := by
  rintro pre X Y row ⟨acc, v, h, hl, hp⟩ hg hr
  refine ⟨acc, v, h.other hg (fun r e => ⟨by have := (hr r e).1; omega, ?_⟩), hl, hp⟩
  rcases (hr r e).2 with h | h
  · exact .inr h
  · exact .inl (by have := h.1; omega)
theorem paJ_own2 (w : World) (s : List UInt8) (pre : List (Nat × List UInt8)) (W0 : World) (hz : W0.heap.size = w.heap.size + 5) : OwnB W0.heap.size (W0.heap.size + 2) (fun _ => True) (fun (_ : Unit) W => PaJ w s pre W) :=
  fun _ X Y row h hg hr => paJ_own w s W0 hz pre X Y row h hg hr
set_option maxRecDepth 100000 in
set_option maxHeartbeats 8000000 in
theorem parse6_kB (w : World) (s : List UInt8) (hs : s.length ≤ 1000000000000) (hll : ∀ x ∈ lines s, x.2.length ≤ 1048576) (hln : (lines s).length ≤ 999999999) (hT : Tabs w) :
    Calls Tryz.prog 10 #[.string (str s)] w fun e w' => Pa6 w s e w' := by
  have hmf : ∀ (fn : Fn) (first cap : Array Value) (w : World), (Instr.makeFunc fn first cap).run Tryz.prog w = .ok (.func fn first cap) w := fun _ _ _ _ => rfl
  have hT0 := hT
  refine (callsIn_wide (n := 9)).1 ?_
  refine callsIn_of_wpAt Tryz.func10 rfl trivial ?_ rfl
  simp only [Tryz.ntmps10, List.size_toArray, List.length_cons, List.length_nil, Nat.reduceAdd, Nat.reduceSub, Array.replicate_succ, Array.replicate_zero, List.push_toArray, List.append_toArray, List.nil_append, List.cons_append]
  refine wpAt_seq (wpAt_of_wpIn ?_)
  gi_wp2
  refine wpAt_seq (wpAt_of_wpIn ?_)
  gi_wp2
  refine wpAt_seq (wpAt_of_wpIn ?_)
  gi_wp2
  refine wpAt_seq (wpAt_seq (wpAt_of_wpIn ?_))
  gi_wp2_with (refine ⟨trivial, ?_⟩; gi_at_call 20; refine (callsIn_wide.2 (linesMake_k (str s) _)).mono ?_; rintro e w1 ⟨rfl, rfl⟩)
  refine wpAt_block ?_
  simp only [Nat.add_assoc, Nat.reduceAdd]
  obtain ⟨W0, hW0⟩ : ∃ W0, (((((w.alloc (.cells #[.string (str s)] 9)).alloc (.cells #[.slice none 0 0] 22)).alloc (.cells fz 34)).alloc (.cells #[.int .i64 0] 3)).alloc (.cells #[.string (str s)] 9)) = W0 := ⟨_, rfl⟩
  obtain ⟨zW0, bW0, x0, x1, x2, x3, x4⟩ := pa_start w W0 s hW0
  rw [hW0]
  clear hW0
  have hlq := lines_seqX6 (9 - 1) (str s) (by rw [str_size]; omega) (w.heap.size + 4) W0 x4
  rw [bytes_str] at hlq
  refine seq_lawX6 (fn0 := _) Tryz.func10 (gf := 41) (lb := #[.pointer (some ⟨w.heap.size + 4, 0, none⟩)]) rfl (enters_of Tryz.func41 (by kernel_rfl) rfl) (sb := w.heap.size + 4) (A := W0.heap.size + 2) (by omega) (by omega)
    hlq (fun _ => rfl) (PaJ w s) (PaP w s) ?hI ⟨[], _, ⟨x0, x1, x2, x3, EvMk.nil _ _ _, bW0⟩, Nat.zero_le _, fun post e => by rw [parsesM, e]; rfl⟩ ?round ?done ?stop
  case hI => exact paJ_own w s _ (by omega)
  case round =>
    rintro l pre x W hJ0 ⟨post, hpost⟩ hAW _
    dsimp only [lineV]
    gi_wp2
    refine ⟨Kept.refl _ _ _ _, fun _ W₂ => PaJ w s pre W₂, paJ_own2 w s pre _ (by omega), hJ0, ?_⟩
    clear hJ0
    rintro W₂ ⟨acc, v, hJ, hla, hpm⟩ hAW2 _
    have hrm := lines_room hpost
    have hx2 : x.2.length ≤ 1048576 := hll x (by rw [hpost]; simp)
    gi_wp2
    have hx0 := cells_at hJ.text 0 _ rfl
    have hx3 := cells_at hJ.start 0 _ rfl
    have hRD : ∀ (c : Array Value) (V : World), c.size = 5 → Below W₂.heap.size W₂ V → True := fun _ _ _ _ => trivial
    clear hRD
    refine Code.wpIn_mono (Q := fun e a U => e = .normal ∧ ∃ R : Nat, a = ⟨#[.string (str s), .pointer (some ⟨w.heap.size, 0, none⟩), .pointer (some ⟨w.heap.size + 1, 0, none⟩), .pointer (some ⟨w.heap.size + 2, 0, none⟩), .pointer (some ⟨w.heap.size + 3, 0, none⟩), .int .i64 x.1, .string (str x.2), .pointer (some ⟨R, 0, none⟩), .func (.func 19) #[] #[.pointer (some ⟨w.heap.size + 1, 0, none⟩), .pointer (some ⟨w.heap.size + 2, 0, none⟩)], .string (str s), .func (.func 41) #[] #[.pointer (some ⟨w.heap.size + 4, 0, none⟩)], .int .i64 x.1, .string (str x.2), .string (str s), .int .i64 (stL pre), .string (str x.2), .string (str (aheadL x.2)), .agg #[.string (str s), .int .i64 (stL pre), .string (str (aheadL x.2)), .slice none 0 0, .int .i64 0], undef, undef, undef, undef, undef, undef, undef, undef, undef, undef, undef, undef, undef, undef, undef, undef, undef, undef, undef, undef], []⟩ ∧ W₂.heap.size ≤ R ∧ LrAt U R s (stL pre) (aheadL x.2) (.slice none 0 0) 0 ∧ Below W₂.heap.size W₂ U) ?rest6
      (wpIn_region_G 7 (fun U => U.cell? ⟨w.heap.size, 0, none⟩ = some (.string (str s)) ∧ U.cell? ⟨w.heap.size + 3, 0, none⟩ = some (.int .i64 (stL pre)) ∧ Below W₂.heap.size W₂ U) (by kernel_rfl) (by kernel_rfl) (by kernel_rfl) (by rintro ⟨a, w, h, _⟩; cases h) ?reg6)
    case reg6 =>
      have HS : ∀ U : World, Below W₂.heap.size W₂ U → U.cell? ⟨w.heap.size, 0, none⟩ = some (.string (str s)) ∧ U.cell? ⟨w.heap.size + 3, 0, none⟩ = some (.int .i64 (stL pre)) ∧ Below W₂.heap.size W₂ U := fun U b => ⟨(b.cell (p := ⟨w.heap.size, 0, none⟩) (World.block_lt_of_cell? _ _ hx0)).trans hx0, (b.cell (p := ⟨w.heap.size + 3, 0, none⟩) (World.block_lt_of_cell? _ _ hx3)).trans hx3, b⟩
      have HSH := hide HS
      have HAH := hide (fun U : World => ahead_k (str x.2) (by rw [str_size]; omega) U)
      rw [bytes_str] at HAH
      clear HS hJ hla hpm hpost hrm hAW hAW2 hT
      refine wpAnyG_take (i := 0) (v := ?v0) (by kernel_rfl) rfl (by kernel_rfl) (by kernel_rfl) (fun _ _ _ h => by cases h.1) (Or.inl ⟨by rfl, ?hy0⟩) (HSH.out _ (below_drew (Below.refl _ _))) ?rest0
      case hy0 => intro U hU; obtain ⟨hu0, hu3, _⟩ := hU; go_simp; (try with_reducible rfl)
      case rest0 =>
      (try simp only [Act.put, List.setIfInBounds_toArray])
      refine wpAnyG_take (i := 1) (v := ?v1) (by kernel_rfl) rfl (by kernel_rfl) (by kernel_rfl) (fun _ _ _ h => by cases h.1) (Or.inl ⟨by rfl, ?hy1⟩) (HSH.out _ (below_drew (Below.refl _ _))) ?rest1
      case hy1 => intro U hU; obtain ⟨hu0, hu3, _⟩ := hU; go_simp; (try with_reducible rfl)
      case rest1 =>
      (try simp only [Act.put])
      refine wpAnyG_take (i := 2) (v := ?v2) (by kernel_rfl) rfl (by kernel_rfl) (by kernel_rfl) (fun _ _ _ h => by cases h.1) (Or.inl ⟨by rfl, ?hy2⟩) (HSH.out _ (below_drew (Below.refl _ _))) ?rest2
      case hy2 => intro U hU; obtain ⟨hu0, hu3, _⟩ := hU; go_simp; (try with_reducible rfl)
      case rest2 =>
      (try simp only [Act.put])
      refine wpAnyG_two (i := 3) (j := 5) (by kernel_rfl) rfl rfl (fun K hK => ?ca) (fun K hK => ?al)
      case ca =>
        go_simp
        go_at_call 21
        refine (HAH.out _).mono ?_
        rintro e U ⟨rfl, b⟩
        have bU : Below W₂.heap.size W₂ U := trans_v (below_drew (Below.refl _ _)) b
        refine hK.out _ _ (HSH.out _ bU) ?_
        (try simp only [Act.put, List.setIfInBounds_toArray])
        refine wpAnyG_take (i := 4) (v := ?v4) (by kernel_rfl) rfl (by kernel_rfl) (by kernel_rfl) (fun _ _ _ h => by cases h.1) (Or.inl ⟨by rfl, ?hy4⟩) (HSH.out _ bU) ?rest4
        case hy4 => intro V hV; go_simp; (try with_reducible rfl)
        case rest4 =>
        (try simp only [Act.put, List.setIfInBounds_toArray])
        refine wpAnyG_one (i := 5) (by kernel_rfl) rfl (fun K5 hK5 => ?_)
        go_simp
        refine hK5.out _ _ (HSH.out _ (alloc_v bU _)) ?_
        (try simp only [Act.put, List.setIfInBounds_toArray])
        refine wpAnyG_one (i := 6) (by kernel_rfl) rfl (fun K6 hK6 => ?_)
        go_simp
        refine hK6.out _ _ (HSH.out _ (alloc_v bU _)) ?_
        refine wpAnyG_end (by kernel_rfl) ?_
        exact ⟨rfl, U.heap.size, rfl, bU.size, World.alloc_heap_new U _, alloc_v bU _⟩
      case al =>
        go_simp
        have bA : Below W₂.heap.size W₂ (W₂.alloc (.cells #[.string ⟨#[]⟩, .int .i64 0, .string ⟨#[]⟩, .slice none 0 0, .int .i64 0] 68)).drew := below_drew (alloc_v (Below.refl _ _) _)
        have eA : (W₂.alloc (.cells #[.string ⟨#[]⟩, .int .i64 0, .string ⟨#[]⟩, .slice none 0 0, .int .i64 0] 68)).drew.heap[W₂.heap.size]? = some (.cells #[.string ⟨#[]⟩, .int .i64 0, .string ⟨#[]⟩, .slice none 0 0, .int .i64 0] 68 (0, 0)) := World.alloc_heap_new W₂ _
        generalize hA : (W₂.alloc (.cells #[.string ⟨#[]⟩, .int .i64 0, .string ⟨#[]⟩, .slice none 0 0, .int .i64 0] 68)).drew = A at *
        refine hK.out _ _ (HSH.out _ bA) ?_
        (try simp only [Act.put, List.setIfInBounds_toArray])
        refine wpAnyG_one (i := 3) (by kernel_rfl) rfl (fun K3 hK3 => ?_)
        go_simp
        go_at_call 21
        refine (HAH.out _).mono ?_
        rintro e U ⟨rfl, b⟩
        have bU : Below W₂.heap.size W₂ U := trans_v bA b
        have eU := (b.block _ (Array.getElem?_eq_some_iff.1 eA).1).trans eA
        have g0 := cells_at eU 0 _ rfl
        have gz0 := frozen_at eU 0
        have g1 := cells_at eU 1 _ rfl
        have gz1 := frozen_at eU 1
        have g2 := cells_at eU 2 _ rfl
        have gz2 := frozen_at eU 2
        have g3 := cells_at eU 3 _ rfl
        have gz3 := frozen_at eU 3
        have g4 := cells_at eU 4 _ rfl
        have gz4 := frozen_at eU 4
        refine hK3.out _ _ (HSH.out _ bU) ?_
        (try simp only [Act.put, List.setIfInBounds_toArray])
        refine wpAnyG_take (i := 4) (v := ?w4) (by kernel_rfl) rfl (by kernel_rfl) (by kernel_rfl) (fun _ _ _ h => by cases h.1) (Or.inl ⟨by rfl, ?hz4⟩) (HSH.out _ bU) ?sest4
        case hz4 => intro V hV; go_simp; (try with_reducible rfl)
        case sest4 =>
        (try simp only [Act.put, List.setIfInBounds_toArray])
        refine wpAnyG_one (i := 6) (by kernel_rfl) rfl (fun K6 hK6 => ?_)
        go_simp
        have hp := putN_at [.string (str s), .int .i64 (stL pre), .string (str (aheadL x.2)), .slice none 0 0, .int .i64 0] 0 U _ eU rfl
        have gP := putN_far (grown_of_below (r := none) bU) (Nat.le_refl _) [.string (str s), .int .i64 (stL pre), .string (str (aheadL x.2)), .slice none 0 0, .int .i64 0] 0
        have bP : Below W₂.heap.size W₂ (putN U W₂.heap.size 0 [.string (str s), .int .i64 (stL pre), .string (str (aheadL x.2)), .slice none 0 0, .int .i64 0]) := ⟨gP.os, gP.tape, gP.output, gP.size, fun k hk => gP.block k hk (by simp)⟩
        refine hK6.out _ _ (HSH.out _ bP) ?_
        refine wpAnyG_end (by kernel_rfl) ?_
        exact ⟨rfl, W₂.heap.size, rfl, Nat.le_refl _, hp, bP⟩
    case rest6 =>
      rintro e a U ⟨rfl, R, rfl, hR, hLr, bU⟩
      obtain ⟨said, hsaid⟩ : ∃ said, aheadL x.2 = said := ⟨_, rfl⟩
      rw [hsaid] at hLr ⊢
      have hsl : said.length ≤ x.2.length := by rw [← hsaid]; exact ahead_len _
      have hA8 : w.heap.size + 8 ≤ W₂.heap.size := by omega
      have hRU : R < U.heap.size := (Array.getElem?_eq_some_iff.1 hLr).1
      have r2 := cells_at hLr 2 _ rfl
      have HW := hide (words_k (str said) (by rw [str_size]; omega) (x.1 : Int) U)
      rw [bytes_str] at HW
      have hroom := hT.room
      have hTU : Tabs U := (hT.keep hJ.low hroom).below bU
      have hw1 : IntKind.i64.wrap ((x.2.length : Int) + 1) = (x.2.length : Int) + 1 := by rw [IntKind.wrap_i64]; omega
      have hst : stL (pre ++ [x]) = stL pre + (x.2.length + 1) := by rw [stL_app, stL_cons]; rfl
      have hw2 : IntKind.i64.wrap ((stL pre : Int) + ((x.2.length : Int) + 1)) = ((stL (pre ++ [x]) : Nat) : Int) := by rw [hst, IntKind.wrap_i64]; omega
      have hsz : (str x.2).size = x.2.length := str_size _
      have HST := hide hst
      have HJ := hide (And.intro hJ (And.intro hla (And.intro hpm (And.intro hpost (And.intro hrm hsl)))))
      have HB := hide (And.intro bU (And.intro hLr (And.intro hTU (And.intro hRU (And.intro hA8 hR)))))
      have hlim : acc.length + 1 ≤ 1000000000 := by
        rw [hpost] at hln
        simp at hln
        omega
      have HLIM := hide hlim
      clear hJ hla hpm hpost hrm hst hLr bU hTU hx0 hx3 hlim hT hAW hAW2 hRU hR
      cases hws : wds 0 0 false said with
      | nil =>
        rw [hws] at HW
        have HW0 : Hid (Calls Tryz.prog 22 #[.string (str said), .int .i64 (x.1 : Int)] U fun e w' => ∃ v, e = .returned v ∧ w'.ownsRow U.heap.size 93 4 v 0 [] ∧ Below U.heap.size U w') := HW
        clear HW
        gi_wp2_with (refine ⟨trivial, ?_⟩; gi_at_call 22; refine (CallsIn.inRound l (callsIn_wide.2 HW0.out)).mono ?_; clear HW0; rintro e U1 ⟨v1, rfl, o1, b1⟩; obtain ⟨va, vc, rfl⟩ := row_slice o1; have e1 := (b1.block R HB.out.2.2.2.1).trans HB.out.2.1; have rz3 := frozen_at e1 3; have r3 := cells_at e1 3 _ rfl; have e2 := heap_setCell_same _ _ 3 _ _ (.slice va 0 vc) e1; have q3 := cells_at e2 3 _ rfl; have eS := (b1.block (w.heap.size + 3) (by have := HB.out.2.2.2.2.1; have := HB.out.1.size; omega)).trans ((HB.out.1.block (w.heap.size + 3) (by have := HB.out.2.2.2.2.1; omega)).trans HJ.out.1.start); have eS2 := (Below.heap_setCell U1 ⟨R, 3, none⟩ (.slice va 0 vc) (w.heap.size + 3) (by have := HB.out.2.2.2.2.1; have := HB.out.2.2.2.2.2; show w.heap.size + 3 ≠ R; omega)).trans eS; have s0 := cells_at eS2 0 _ rfl; have sz0 := frozen_at eS2 0; have B1 := hide b1; clear b1 o1 e1 e2 eS eS2)
        have b2 : Below W₂.heap.size W₂ (U1.setCell ⟨R, 3, none⟩ (.slice va 0 vc)) := (trans_v HB.out.1 B1.out).setCell (p := ⟨R, 3, none⟩) HB.out.2.2.2.2.2 _
        have P := pa_none HJ.out.1 b2 HB.out.2.2.2.2.1 (stL (pre ++ [x]))
        rw [zW0]
        refine ⟨P.1, acc, v, P.2, by have := HJ.out.2.1; simp; omega, fun post' e => ?_⟩
        rw [List.append_assoc, List.singleton_append] at e
        rw [HJ.out.2.2.1 _ e, goM6_none (by rw [hsaid]; exact hws), HST.out, Nat.add_assoc]
      | cons y r =>
        rw [hws] at HW
        have HW0 : Hid (Calls Tryz.prog 22 #[.string (str said), .int .i64 (x.1 : Int)] U fun e w' => ∃ v, e = .returned v ∧ w'.ownsRow U.heap.size 93 4 v (r.length + 1) (wordCells x.1 (y :: r)) ∧ Below U.heap.size U w') := HW
        clear HW
        have hpos : (0 : Int) < (r.length : Int) + 1 := by omega
        gi_wp2_with (refine ⟨trivial, ?_⟩; gi_at_call 22; refine (CallsIn.inRound l (callsIn_wide.2 HW0.out)).mono ?_; clear HW0; rintro e U1 ⟨v1, rfl, o1, b1⟩; obtain ⟨va, vc, rfl⟩ := row_slice o1; have e1 := (b1.block R HB.out.2.2.2.1).trans HB.out.2.1; have rz3 := frozen_at e1 3; have r3 := cells_at e1 3 _ rfl; have e2 := heap_setCell_same _ _ 3 _ _ (.slice va (r.length + 1) vc) e1; have q3 := cells_at e2 3 _ rfl; have E2 := hide (And.intro e2 (And.intro o1 b1)); clear b1 o1 e1 e2)
        have hws1 : ∀ z ∈ y :: r, z.off + z.text.length ≤ said.length := by rw [← hws]; exact wds_all said
        have hwl : (y :: r).length ≤ said.length := by rw [← hws]; exact wds_len said 0 0 false
        have hj := HJ.out
        have hb := HB.out
        have eU2 := E2.out.1
        have hzU2 : (U1.setCell ⟨R, 3, none⟩ (.slice va (r.length + 1) vc)).heap.size = U1.heap.size := by simp [World.setCell]
        have bU2 : Below W₂.heap.size W₂ (U1.setCell ⟨R, 3, none⟩ (.slice va (r.length + 1) vc)) := (trans_v hb.1 E2.out.2.2).setCell (p := ⟨R, 3, none⟩) hb.2.2.2.2.2 _
        have hWs : WsAt (U1.setCell ⟨R, 3, none⟩ (.slice va (r.length + 1) vc)) R U1.heap.size (.slice va (r.length + 1) vc) (x.1 : Int) (y :: r) := (ws_of_row E2.out.2.1 hb.2.2.2.1 (by omega) (fun z hz => by have := hws1 z hz; omega)).kept (fun k _ hne => Below.heap_setCell _ _ _ _ hne)
        generalize hU2 : U1.setCell ⟨R, 3, none⟩ (.slice va (r.length + 1) vc) = U2 at *
        have HEV := hide (event6_k U2.drew R U1.heap.size s said (stL pre) 0 x.1 (.slice va (r.length + 1) vc) y r hs (by omega) (by omega) hws1 (((hT0.keep hj.1.low hroom).below bU2).below (below_drew (Below.refl _ _))) ⟨by have := hj.1.low.size; omega, by have := hj.1.low.size; omega⟩ (by show U1.heap.size ≤ U2.heap.size; omega) eU2 (hWs.kept fun _ _ _ => rfl))
        have eV := (bU2.block _ (Array.getElem?_eq_some_iff.1 hj.1.evs).1).trans hj.1.evs
        have hv0 := cells_at eV 0 _ rfl
        have HEVS := hide eV
        have HBU := hide bU2
        clear eU2 hWs eV bU2 q3 r3 rz3 r2
        refine wpIn_region_F 4 5 (fun V => V.cell? ⟨w.heap.size + 1, 0, none⟩ = some v) (by kernel_rfl) (by kernel_rfl) (by kernel_rfl) (by rintro ⟨a, w, h⟩; exact h) (by kernel_rfl) (by kernel_rfl) (by decide) (by kernel_rfl) ?_
        intro hsk inv
        have HS0 : Hid (U2.drew.cell? ⟨w.heap.size + 1, 0, none⟩ = some v) := hv0
        clear hv0
        refine wpAnyF_take (i := 0) (v := ?vb0) hsk inv (by decide) rfl (by kernel_rfl) (by kernel_rfl) (fun _ _ _ h => h) (Or.inl ⟨by rfl, ?hyb0⟩) HS0.out ?restb0
        case hyb0 => intro V hV; (try dsimp only at hV); go_simp; (try with_reducible rfl)
        case restb0 =>
        clear inv
        intro inv
        (try simp only [Act.put, List.setIfInBounds_toArray])
        refine wpAnyF_one (i := 1) inv (by decide) (by kernel_rfl) rfl (fun K hK => ?_)
        go_simp
        cases hev : evM6 said x.1 (stL pre) (y :: r) with
        | error z =>
          obtain ⟨c, o⟩ := z
          go_at_call 23
          refine HEV.out.mono ?_
          rintro e U3 ⟨g3, hm⟩
          rw [hev] at hm
          subst hm
          have b3 : Below W₂.heap.size W₂ U3 := below_of_grown (grown_more (grown_of_below (below_drew HBU.out)) g3) hb.2.2.2.2.2
          refine ⟨rfl, kept_below b3, c, stL pre + o, rfl, ?_, ⟨v, (b3.block _ (Array.getElem?_eq_some_iff.1 hj.1.evs).1).trans hj.1.evs⟩, (b3.block _ (Array.getElem?_eq_some_iff.1 hj.1.fault).1).trans hj.1.fault, hj.1.low.trans (b3.mono hj.1.low.size)⟩
          rw [hj.2.2.1 _ hj.2.2.2.1, goM6_stop (by rw [hsaid]; exact hws) (by rw [hsaid]; exact hev)]
        | ok ev =>
          obtain ⟨ek, ep, eo, eq, ⟨vk, vi, vm, vt, vl⟩, e9, e10, e11⟩ := ev
          have hok := evM6_ok (by omega) hws1 hev
          go_at_call 23
          refine HEV.out.mono ?_
          rintro e U3 ⟨g3, hm⟩
          rw [hev] at hm
          obtain ⟨s3, rfl, i3⟩ := hm
          obtain ⟨sa, sc, rfl, _⟩ := i3.len
          have b3 : Below W₂.heap.size W₂ U3 := below_of_grown (grown_more (grown_of_below (below_drew HBU.out)) g3) hb.2.2.2.2.2
          have mk3 : EvMk U3 (w.heap.size + 8) 16 v acc := hj.1.mkg.far b3.size (fun k _ hk => b3.block k hk)
          have hz3 := b3.size
          have hz2 := HBU.out.size
          obtain ⟨gq, cap, W4, hrun, mk4, g4, lie4⟩ := mk3.push (by omega) HLIM.out ⟨ek, ep, eo, eq, ⟨vk, vi, vm, vt, vl⟩, e9, e10, e11⟩ 22 (i3.kept (fun _ _ _ => rfl) (fun b hb' => ⟨by have := hb'.1; have : U2.drew.heap.size = U2.heap.size := rfl; omega, hb'.2, fun e => by have := (hj.1.mkg.lt e).2; have := hb'.1; have : U2.drew.heap.size = U2.heap.size := rfl; omega⟩)) hok.1 hok.2.2
          have k3 := (b3.block _ (Array.getElem?_eq_some_iff.1 hj.1.evs).1).trans hj.1.evs
          have k4 := (g4.block (w.heap.size + 1) (by omega) (fun e => by have := (hj.1.mkg.lt e.symm).1; omega)).trans k3
          have P := pa_more hj.1 b3 g4 mk4 hb.2.2.2.2.1 (stL (pre ++ [x]))
          have q3 := cells_at k3 0 _ rfl
          have q3a := (World.cell?_alloc_some U3 ⟨w.heap.size + 1, 0, none⟩ (.cells (evCells ⟨ek, ep, eo, eq, ⟨vk, vi, vm, vt, vl⟩, e9, e10, e11⟩ (.slice sa vl.length sc)) 48) (by rw [q3]; rfl)).trans q3
          have q4 := cells_at k4 0 _ rfl
          have qz4 := frozen_at k4 0
          have hs5 := heap_setCell_same _ _ 0 _ _ (.slice (some ⟨gq, 0, none⟩) (acc.length + 1) cap) k4
          have k5 : (W4.setCell ⟨w.heap.size + 1, 0, none⟩ (.slice (some ⟨gq, 0, none⟩) (acc.length + 1) cap)).heap[w.heap.size + 3]? = some (.cells #[.int .i64 (stL pre)] 3 (0, 0)) := (Below.heap_setCell _ _ _ _ (by show w.heap.size + 3 ≠ w.heap.size + 1; omega)).trans ((g4.block (w.heap.size + 3) (by omega) (fun e => by have := (hj.1.mkg.lt e.symm).1; omega)).trans ((b3.block _ (Array.getElem?_eq_some_iff.1 hj.1.start).1).trans hj.1.start))
          have s5 := cells_at k5 0 _ rfl
          have sz5 := frozen_at k5 0
          have PH := hide P
          clear P k3 k4 k5 hs5 mk3 mk4 i3 g3 g4 lie4
          refine hK.out _ _ q3 ?_
          clear inv
          intro inv
          (try simp only [])
          refine wpAnyF_one (i := 2) inv (by decide) (by kernel_rfl) rfl (fun K2 hK2 => ?_)
          go_simp
          refine hK2.out _ _ q3a ?_
          clear inv
          intro inv
          (try simp only [Act.put, List.setIfInBounds_toArray])
          refine wpAnyF_one (i := 3) inv (by decide) (by kernel_rfl) rfl (fun K3 hK3 => ?_)
          refine step_runV _ (by rfl) (.tmp 27) (.tmp 29) 22 (by rfl) _ _ (by rfl) (by rfl) _ W4 hrun ?_
          refine hK3.out _ _ q4 ?_
          clear inv
          intro inv
          (try simp only [Act.put, List.setIfInBounds_toArray])
          refine wpAnyF_last (by kernel_rfl) (by kernel_rfl) rfl (fun K4 hK4 => ?_)
          go_simp
          refine hK4.out _ _ ?_
          gi_wp2
          refine ⟨PH.out.1, _, _, PH.out.2, by have := hj.2.1; simp; omega, fun post' e => ?_⟩
          rw [List.append_assoc, List.singleton_append] at e
          rw [hj.2.2.1 _ e, goM6_more (by rw [hsaid]; exact hws) (by rw [hsaid]; exact hev), HST.out, Nat.add_assoc]
  case done =>
    rintro W ⟨acc, v, hJ, hla, hpm⟩ hK
    have hfin : parsesM s = .ok acc := hpm [] (by simp)
    obtain ⟨va, vc, rfl⟩ := hJ.mkg.len
    have y1 := cells_at hJ.evs 0 _ rfl
    have yz1 := frozen_at hJ.evs 0
    have f0 : W.cell? ⟨w.heap.size + 2, 0, none⟩ = some (.int .i64 0) := cells_at hJ.fault 0 _ rfl
    have fz0 := frozen_at hJ.fault 0
    have f1 : W.cell? ⟨w.heap.size + 2, 1, none⟩ = some (.int .i64 0) := cells_at hJ.fault 1 _ rfl
    have fz1 := frozen_at hJ.fault 1
    have f2 : W.cell? ⟨w.heap.size + 2, 2, none⟩ = some (.int .i64 0) := cells_at hJ.fault 2 _ rfl
    have fz2 := frozen_at hJ.fault 2
    have f3 : W.cell? ⟨w.heap.size + 2, 3, none⟩ = some (.int .i64 0) := cells_at hJ.fault 3 _ rfl
    have fz3 := frozen_at hJ.fault 3
    have w1 : W.setCell ⟨w.heap.size + 1, 0, none⟩ (.slice va acc.length vc) = W := setCell_selfV y1
    have w2 : W.setCell ⟨w.heap.size + 2, 0, none⟩ (.int .i64 0) = W := setCell_selfV f0
    have w3 : W.setCell ⟨w.heap.size + 2, 1, none⟩ (.int .i64 0) = W := setCell_selfV f1
    have w4 : W.setCell ⟨w.heap.size + 2, 2, none⟩ (.int .i64 0) = W := setCell_selfV f2
    have w5 : W.setCell ⟨w.heap.size + 2, 3, none⟩ (.int .i64 0) = W := setCell_selfV f3
    have HJ := hide hJ
    have HF := hide hfin
    have HK := hide hK
    clear hpm hJ hfin hK hT hlq
    refine wpAt_of_wpIn ?_
    gi_wp2
    refine ⟨by simp, .inl ⟨_, _, rfl, run_takeDeferred (by rw [← zW0]; exact HK.out), ?_⟩⟩
    refine ⟨by simp, .inr ⟨fun h => (by cases h), _, _, 19, #[.pointer (some ⟨w.heap.size + 1, 0, none⟩), .pointer (some ⟨w.heap.size + 2, 0, none⟩)], rfl, by simp [go_sem], fun _ _ => trivial, ?_⟩⟩
    refine (pIdle6 _ _ _ _).mono ?_
    rintro e u' w4 ⟨rfl, rfl, rfl⟩
    have hj := HJ.out
    have nb : ∀ k, k ≠ w.heap.size + 5 → (W.putObj (w.heap.size + 5) (.deferred none)).heap[k]? = W.heap[k]? := fun k hk => World.putObj_heap_other hk
    have hzp : (W.putObj (w.heap.size + 5) (.deferred none)).heap.size = W.heap.size := by simp
    have gp := grownBy_putObj' W (w.heap.size + 5) (.deferred none)
    refine ⟨_, results2 (t0 := 22) (t1 := 34) rfl _ _ ⟨w.heap.size + 1, 0, none⟩ ⟨w.heap.size + 2, 0, none⟩ (.slice va acc.length vc) (.agg fz) rfl rfl (load_evs ((nb _ (by omega)).trans hj.evs)) (load_fault rfl ((nb _ (by omega)).trans hj.fault)), ?_⟩
    refine ⟨hj.low.grown gp (by have := hj.low.size; omega) (fun k e => by cases e; omega), ?_⟩
    rw [HF.out]
    exact ⟨_, rfl, (hj.mkg.other gp (fun r e => by cases e; exact .inl (by omega))).down (by omega)⟩
  case stop =>
    rintro c pre x W _ ⟨k, o, rfl, hpm, ⟨v, hv⟩, hf, hb⟩ hK
    refine ⟨by simp, .inl ⟨_, _, rfl, run_takeDeferred hK, ?_⟩⟩
    refine ⟨by simp, .inr ⟨fun h => (by cases h), _, _, 19, #[.pointer (some ⟨w.heap.size + 1, 0, none⟩), .pointer (some ⟨w.heap.size + 2, 0, none⟩)], rfl, by simp [go_sem], fun _ _ => trivial, ?_⟩⟩
    have nb : ∀ k, k ≠ W0.heap.size → (W.putObj (W0.heap.size) (.deferred none)).heap[k]? = W.heap[k]? := fun k hk => World.putObj_heap_other hk
    have gp := grownBy_putObj' W (W0.heap.size) (.deferred none)
    have hb2 : Below w.heap.size w (W.putObj (W0.heap.size) (.deferred none)) := hb.grown gp (by have := hb.size; omega) (fun k e => by cases e; omega)
    refine (pCatch6 _ (w.heap.size + 1) (w.heap.size + 2) (W.putObj (W0.heap.size) (.deferred none)) k (clamp (str s) o : Nat) (atR (clamp (str s) o) 0 1 1 (ru s)).1 (atR (clamp (str s) o) 0 1 1 (ru s)).2 (by omega) ⟨_, (nb _ (by omega)).trans hv⟩ ((nb _ (by omega)).trans hf)).mono ?_
    rintro e u' w4 ⟨rfl, rfl, q1, q2, q3, q4, q5, q6, q7⟩
    refine ⟨_, results2 (t0 := 22) (t1 := 34) rfl _ _ ⟨w.heap.size + 1, 0, none⟩ ⟨w.heap.size + 2, 0, none⟩ (.slice none 0 0) (.agg (fcells s k o)) rfl rfl (load_evs q1) (load_fault rfl q2), ?_⟩
    refine ⟨⟨q5.trans hb2.os, q6.trans hb2.tape, q7.trans hb2.output, by rw [q3]; exact hb2.size, fun j hj => (q4 j (by omega) (by omega)).trans (hb2.block j hj)⟩, ?_⟩
    rw [hpm]
theorem parse6_k (w : World) (s : List UInt8) (hs : s.length ≤ 1048576) (hT : Tabs w) :
    Calls Tryz.prog 10 #[.string (str s)] w fun e w' => Pa6 w s e w' := by
  refine parse6_kB w s (by omega) (fun x hx => ?_) ?_ hT
  · obtain ⟨pre, post, h⟩ := List.append_of_mem hx
    have := lines_room h
    omega
  · have h1 := lns_len s []
    have h2 : (lines s).length = (lns [] s).length := numd_length _ _
    omega
end Go.Proofs.YthmhcpghfbifiaaGreatDoor
