/- TokenBack: the walk. -/
import Derived.Test.YthpkjehoogodkaaDoorZKBackM
import Derived.Test.YthpkjehoogodkaaDoorZKHeads
namespace Go.Proofs.YthpkjehoogodkaaDoor
open Go.RowKit

/-- A token at no place. -/
def tq0 (t : Tkn) : Tq := ⟨t.kind, 0, 0, 0, str t.text, t.int⟩
theorem strip_tk (x : Tq) : x.strip = tq0 x.tk := by
  unfold Tq.strip tq0 Tq.tk
  rw [str_bytes]
theorem strip_map (l : List Tq) : l.map Tq.strip = (l.map Tq.tk).map tq0 := by
  rw [List.map_map]
  exact List.map_congr_left fun x _ => strip_tk x
theorem strip_tqs (L : List UInt8) (x : List (Tkn × Nat)) : (tqs L x).map Tq.strip = (x.map Prod.fst).map tq0 := by
  unfold tqs
  rw [List.map_map, List.map_map]
  rfl
theorem endd_more : ∀ l : List Tkn, (∀ x ∈ l, x.kind ≠ 0) → endd l = l ++ [Tkn.none]
  | [], _ => rfl
  | t :: r, h => by rw [endd, if_neg (h t (by simp)), endd_more r (fun x hx => h x (by simp [hx]))]; rfl
theorem endd_self : ∀ l : List Tkn, okJ l = true → (∃ x ∈ l, x.kind = 0) → endd l = l
  | [], _, h => by obtain ⟨x, hx, _⟩ := h; cases hx
  | t :: r, hk, h => by
    obtain ⟨h1, h2, h3⟩ := okJ_cons hk
    rw [endd]
    by_cases h0 : t.kind = 0
    · rw [if_pos h0, h2 h0, sp_end t h1 h0]
    · rw [if_neg h0, endd_self r h3]
      obtain ⟨x, hx, hx0⟩ := h
      rcases List.mem_cons.1 hx with e | hx
      · subst e
        exact absurd hx0 h0
      · exact ⟨x, hx, hx0⟩
theorem jn_len2 (l : List Tq) (hl : ∀ x ∈ l, x.ok) : (jn (l.map Tq.tk)).length ≤ (l.map fun x => x.t.size).sum + l.length * 21 := by
  have : ∀ (m : List Tq) (b : Bool), (∀ x ∈ m, x.ok) → (jnF b (m.map Tq.tk)).length ≤ (m.map fun x => x.t.size).sum + m.length * 21 := by
    intro m
    induction m with
    | nil => intro b _; simp [jnF]
    | cons x r ih =>
      intro b h
      have h1 := ih false (fun y hy => h y (by simp [hy]))
      have h2 := wrT_len x (h x (by simp))
      rw [List.map_cons, jnF, List.length_append, List.length_append, List.length_cons, List.map_cons, List.sum_cons]
      have h4 : (bif b then ([] : List UInt8) else [32]).length ≤ 1 := by cases b <;> simp
      omega
  exact this l true hl
theorem TqAt.oks {w : World} {B : Nat} {sl : Value} {l : List Tq} (hi : TqAt w B sl l) : ∀ x ∈ l, x.ok := fun x hx => by
  obtain ⟨a, cp, rfl, hlen⟩ := hi.len
  obtain ⟨j, hj, e⟩ := List.getElem_of_mem hx
  obtain ⟨_, _, _, _, _, _, _, _, _, _, k⟩ := hi.item j hj
  rw [← e]
  exact k
/-- Scan of what is joined. -/
theorem scan_joined (l : List Tq) (hk : okJ (l.map Tq.tk) = true) (hb : (jn (l.map Tq.tk)).length ≤ 4294967296) (w : World) (hT : KT w) :
    Calls Tryd.prog 7 #[.string (str (jn (l.map Tq.tk)))] w fun e w' => ∃ v m, e = .returned (.tuple #[v, .agg #[.int .i64 0, .int .i64 0, .int .i64 0, .int .i64 0]]) ∧ RawAt w' w'.heap.size v m ∧ Hid (m.map Tq.strip = (endd (l.map Tq.tk)).map tq0) ∧ Below w.heap.size w w' := by
  refine (scan_k (str (jn (l.map Tq.tk))) (by rw [str_size]; exact hb) w hT).mono ?_
  rintro e w' ⟨v, he, h1, _, hbel⟩
  rw [bytes_str] at he h1
  have ht := sc_ts (jn (l.map Tq.tk))
  rw [ts_jn _ hk] at ht
  have hf : (sc (jn (l.map Tq.tk)) 0).2 = Option.none := by
    have := congrArg Prod.snd ht
    simpa using this
  have hm : (sc (jn (l.map Tq.tk)) 0).1.map Prod.fst = endd (l.map Tq.tk) := congrArg Prod.fst ht
  have h1 := h1 hf
  rw [tqs_row, ← tqs_len (jn (l.map Tq.tk))] at h1
  refine ⟨v, tqs (jn (l.map Tq.tk)) (sc (jn (l.map Tq.tk)) 0).1, ?_, raw_row h1 ?_, ?_, hbel⟩
  · rw [he, hf]
    rfl
  · rw [tqs_len]
    have := sc_len (jn (l.map Tq.tk))
    omega
  · exact hide (by rw [strip_tqs, hm])

set_option maxRecDepth 100000 in
set_option maxHeartbeats 4000000 in
theorem tokenBack_walk (l : List Tq) (sl : Value) (w : World) (hT : KT w) (hi : TqAt w w.heap.size sl l) (hs : (l.map fun x => x.t.size).sum ≤ 1048576) :
    Calls Tryd.prog 5 #[sl] w fun e w' => e = .returned (.bool true) ∧ Below w.heap.size w w' := by
  obtain ⟨i6, hi6, h60, h61, h62⟩ := info_parts infoTok
  have HJ := hide (join_k l sl w hT hi)
  have HI := hide hi
  have HT := hide hT
  have hok := hi.oks
  have hjl := jn_len2 l hok
  obtain ⟨a, cp, rfl, hlen⟩ := hi.len
  have hjb : (jn (l.map Tq.tk)).length ≤ 4294967296 := by omega
  have hlast : okJ (l.map Tq.tk) = true → ∀ j (h : j < l.length), l[j].k = 0 → j + 1 = l.length := fun hk j h h0 => by
    obtain ⟨_, q⟩ := okJ_drop (l.map Tq.tk) j (by simpa using h) hk
    have := q (by simpa [Tq.tk] using h0)
    simpa using this
  clear hi hT hok hjl
  cases hk : okJ (l.map Tq.tk) with
  | false =>
    rw [hk] at HJ
    simp only [cond_false] at HJ
    clear hlast hjb hk
    go_enter Tryd.func5, Tryd.ntmps5
    go_wp2_with (first
      | (go_at_call 13; refine HJ.out.mono ?_; clear HJ; rintro e w1 ⟨rfl, b1⟩; have B1 := hide b1; clear b1)
      | (go_at_call 10; refine (heads9_k _ (HT.out.below B1.out)).mono ?_; rintro e w2 ⟨rfl, b2⟩; have B2 := hide b2; clear b2))
    go_ret
    exact ⟨rfl, ktrans B1.out B2.out⟩
  | true =>
    have HSC := hide (fun (W : World) (h : KT W) => scan_joined l hk hjb W h)
    have hlast := hlast hk
    have HK := hide hk
    have HLAST := hide hlast
    rw [hk] at HJ
    simp only [cond_true] at HJ
    have HPL := hide (fun (W : World) (b : Below w.heap.size w W) => plain_k l (.slice a l.length cp) W ((HI.out.raw.below b).up b.size))
    clear hjb hk hlast
    generalize str (jn (l.map Tq.tk)) = J at *
    go_enter Tryd.func5, Tryd.ntmps5
    go_wp2_with (go_at_call 13; refine HJ.out.mono ?_; clear HJ; rintro e w1 ⟨rfl, b1⟩; have B1 := hide b1; clear b1)
    refine (HSC.out w1 (HT.out.below B1.out)).mono ?_
    clear HSC
    rintro e w2 ⟨v2, m, rfl, r2, hm, b2⟩
    have B2 := hide (ktrans B1.out b2)
    have R2 := hide r2
    obtain ⟨a2, c2, rfl, hl2⟩ := r2.len
    clear b2 r2 B1
    have e2 := World.alloc_heap_new w2 (.cells #[.int .i64 0, .int .i64 0, .int .i64 0, .int .i64 0] 27)
    have b2' : Below w2.heap.size w2 (w2.alloc (.cells #[.int .i64 0, .int .i64 0, .int .i64 0, .int .i64 0] 27)) := kalloc (Below.refl _ _) _
    have z2 : w2.heap.size < (w2.alloc (.cells #[.int .i64 0, .int .i64 0, .int .i64 0, .int .i64 0] 27)).heap.size := by simp
    have E2 := hide e2
    have B2' := hide b2'
    have Z2 := hide z2
    have R2' := hide (R2.out.below b2')
    clear e2 b2' z2 R2
    go_wp2_with (go_at_call 15; refine (HPL.out _ (ktrans B2.out B2'.out)).mono ?_)
    rintro e w3 ⟨v3, rfl, r3, b3⟩
    have F3 := hide ((b3.block _ Z2.out).trans E2.out)
    have R3m := hide ((R2'.out.up B2'.out.size).below b3)
    have B3 := hide (ktrans (ktrans B2.out B2'.out) b3)
    have hz3 : w2.heap.size < (w2.alloc (.cells #[.int .i64 0, .int .i64 0, .int .i64 0, .int .i64 0] 27)).heap.size := Z2.out
    obtain ⟨NB, hNB⟩ : ∃ N, (w2.alloc (.cells #[.int .i64 0, .int .i64 0, .int .i64 0, .int .i64 0] 27)).heap.size = N := ⟨_, rfl⟩
    rw [hNB] at r3 hz3
    have hN3 : NB ≤ w3.heap.size := by rw [← hNB]; exact b3.size
    have hBN : w.heap.size ≤ NB := by rw [← hNB]; exact (ktrans B2.out B2'.out).size
    have R3m := hide (show RawAt w3 NB (.slice a2 m.length c2) m by rw [← hNB]; exact R3m.out)
    clear hNB b3 E2 R2' Z2 B2' B2 HPL
    rw [List.length_map] at r3
    obtain ⟨a3, c3, rfl⟩ := row_slice r3
    have R3 := hide r3
    clear r3
    have APPF : (endd (l.map Tq.tk) = l.map Tq.tk ++ [Tkn.none]) → ∀ (v4 : Value) (w4 : World), w4.ownsRow NB 35 6 v4 (l.length + 1) (tqRow (l.map Tq.strip) ++ [.int .i64 0, .int .i64 0, .int .i64 0, .int .i64 0, .string ⟨#[]⟩, .int .i64 0]) → (w3.alloc (.cells #[.int .i64 0, .int .i64 0, .int .i64 0, .int .i64 0, .string ⟨#[]⟩, .int .i64 0] 35)).grownBy w4 (Value.slice a3 l.length c3).ownBlock →
        Hid (w4.heap[w2.heap.size]? = some (.cells #[.int .i64 0, .int .i64 0, .int .i64 0, .int .i64 0] 27 (0, 0))) ∧ Hid (RawAt w4 NB (.slice a2 m.length c2) m) ∧ Hid (RawAt w4 w4.heap.size v4 ((endd (l.map Tq.tk)).map tq0)) ∧ Hid (Below w.heap.size w w4) ∧ NB ≤ w4.heap.size := by
      intro he v4 w4 ho hg
      have bA : Below w3.heap.size w3 (w3.alloc (.cells #[.int .i64 0, .int .i64 0, .int .i64 0, .int .i64 0, .string ⟨#[]⟩, .int .i64 0] 35)) := kalloc (Below.refl _ _) _
      have hr : ∀ j, (Value.slice a3 l.length c3).ownBlock = some j → NB ≤ j := fun j ej => (row_block R3.out j ej).1
      have bG : Below NB w3 w4 := (bA.mono hN3).grown hg (by simp; omega) hr
      refine ⟨hide ((bG.block _ hz3).trans F3.out), hide (R3m.out.below bG), hide ?_, hide (B3.out.trans (bG.mono hBN)), Nat.le_trans hN3 bG.size⟩
      have e : (endd (l.map Tq.tk)).map tq0 = l.map Tq.strip ++ [tq0 Tkn.none] := by
        rw [he, List.map_append, strip_map]
        rfl
      rw [e]
      refine raw_row (B := NB) ?_ (by rw [List.length_append, List.length_map]; simp; omega)
      rw [tqRow_snoc, List.length_append, List.length_map]
      exact ho
    have hm0 : m.length ≤ 4294967298 := hl2
    by_cases hn0 : l.length = 0
    · have hl0 : l = [] := List.eq_nil_of_length_eq_zero hn0
      have APPF := APPF (by rw [hl0]; rfl)
      have hn1 : ((l.length : Int) == 0) = true := by simpa using hn0
      clear HLAST
      have HN0 := hide hn0
      clear hn0 hl0
      go_wp2_with (first
        | (at_builtin; refine wpList_append_own _ rfl _ _ 22 rfl NB 35 i6 (.agg ztok) 6 56 Tryd.underlying22 hi6 h60 h61 h62 rfl (by decide) _ _ _ rfl (R3.out.alloc _) ⟨w3.heap.size, 0, none⟩ 1 1 [.int .i64 0, .int .i64 0, .int .i64 0, .int .i64 0, .string ⟨#[]⟩, .int .i64 0] rfl rfl (cell_six_at _ _ _ _ _ _ _ _ _ rfl) (by simp [Value.oneCell']) (by unfold maxLen; omega) (by omega) (by (simp; omega)) ?_; intro v4 w4 hown' hgrow _; obtain ⟨F4, R4, W4, BB4, zz4⟩ := APPF v4 w4 hown' hgrow; clear hown' hgrow)
        | (go_at_call 15; refine (plain_k m _ _ (R4.out.up (by omega))).mono ?_; rintro e w5 ⟨v5, rfl, r5, b5⟩; have F5 := hide ((b5.block _ (by omega)).trans F4.out); have P5 := hide (show RawAt w5 w5.heap.size v5 ((endd (l.map Tq.tk)).map tq0) from (by rw [← hm.out]; exact raw_row r5 (by rw [List.length_map]; omega))); have Q5 := hide ((W4.out.below b5).up b5.size); have B5 := hide (ktrans BB4.out b5); have z5 : w2.heap.size < w5.heap.size := (by (have := b5.size; omega)); clear b5 r5)
        | (go_at_call 9; refine (same_yes _ _ _ _ P5.out Q5.out).mono ?_; rintro e w6 ⟨rfl, b6⟩; have g6 := (b6.block _ z5).trans F5.out; have f0 := kcells_at g6 0 _ rfl; have f1 := kcells_at g6 1 _ rfl; have f2 := kcells_at g6 2 _ rfl; have f3 := kcells_at g6 3 _ rfl; have B6 := hide (ktrans B5.out b6); clear b6 g6)
        | (go_at_call 10; refine (heads9_k _ (HT.out.below B6.out)).mono ?_; rintro e w7 ⟨rfl, b7⟩; have B7 := hide (ktrans B6.out b7); clear b7))
      go_ret
      exact ⟨rfl, B7.out⟩
    · obtain ⟨N, hN⟩ : ∃ N, l.length = N + 1 := ⟨l.length - 1, by omega⟩
      have hNl : N < l.length := by omega
      have hn1 : ((l.length : Int) == 0) = false := by simpa using hn0
      have hN1 : (l.length : Int) - 1 = (N : Int) := by omega
      have hrow := R3.out
      rw [hN] at hrow
      obtain ⟨g3, cc3, e3⟩ := ownsRow_succ hrow
      cases e3
      have kc : w3.cell? ⟨g3, N * 6, none⟩ = some (.int .i64 l[N].k) := by
        refine rowCell hrow (N * 6) _ ?_
        have := tqRow_at (l.map Tq.strip) N (by simpa using hNl) 0 (.int .i64 l[N].k) (by simp [Tq.strip])
        simpa using this
      have HNN := hide hN
      have HN0 := hide hn0
      clear hrow hN hn0
      by_cases hkz : l[N].k = 0
      · rw [hkz] at kc
        have he : endd (l.map Tq.tk) = l.map Tq.tk := endd_self _ HK.out ⟨l[N].tk, List.mem_map.2 ⟨l[N], List.getElem_mem hNl, rfl⟩, hkz⟩
        have W3 : Hid (RawAt w3 w3.heap.size (.slice (some ⟨g3, 0, none⟩) l.length c3) ((endd (l.map Tq.tk)).map tq0)) := hide (by
          rw [he, ← strip_map]
          refine raw_row (B := NB) ?_ (by rw [List.length_map]; omega)
          rw [List.length_map]
          exact R3.out)
        clear APPF he hkz HLAST
        go_wp2_with (first
          | (go_at_call 15; refine (plain_k m _ _ (R3m.out.up hN3)).mono ?_; rintro e w5 ⟨v5, rfl, r5, b5⟩; have F5 := hide ((b5.block _ (by omega)).trans F3.out); have P5 := hide (show RawAt w5 w5.heap.size v5 ((endd (l.map Tq.tk)).map tq0) from (by rw [← hm.out]; exact raw_row r5 (by rw [List.length_map]; omega))); have Q5 := hide ((W3.out.below b5).up b5.size); have B5 := hide (ktrans B3.out b5); have z5 : w2.heap.size < w5.heap.size := (by (have := b5.size; omega)); clear b5 r5)
          | (go_at_call 9; refine (same_yes _ _ _ _ P5.out Q5.out).mono ?_; rintro e w6 ⟨rfl, b6⟩; have g6 := (b6.block _ z5).trans F5.out; have f0 := kcells_at g6 0 _ rfl; have f1 := kcells_at g6 1 _ rfl; have f2 := kcells_at g6 2 _ rfl; have f3 := kcells_at g6 3 _ rfl; have B6 := hide (ktrans B5.out b6); clear b6 g6)
          | (go_at_call 10; refine (heads9_k _ (HT.out.below B6.out)).mono ?_; rintro e w7 ⟨rfl, b7⟩; have B7 := hide (ktrans B6.out b7); clear b7))
        go_ret
        exact ⟨rfl, B7.out⟩
      · have he : endd (l.map Tq.tk) = l.map Tq.tk ++ [Tkn.none] := endd_more _ (fun x hx => by
          obtain ⟨y, hy, e⟩ := List.mem_map.1 hx
          obtain ⟨j, hj, ej⟩ := List.getElem_of_mem hy
          subst e
          intro h0
          have h1 : l[j].k = 0 := by rw [ej]; exact h0
          have h2 := HLAST.out j hj h1
          have h3 : j = N := by have := HNN.out; omega
          subst h3
          exact hkz h1)
        have APPF := APPF he
        have hk2 : (l[N].k != 0) = true := by simpa using hkz
        generalize l[N].k = kz at *
        clear he hkz HLAST
        go_wp2_with (first
          | (at_builtin; refine wpList_append_own _ rfl _ _ 22 rfl NB 35 i6 (.agg ztok) 6 56 Tryd.underlying22 hi6 h60 h61 h62 rfl (by decide) _ _ _ rfl (R3.out.alloc _) ⟨w3.heap.size, 0, none⟩ 1 1 [.int .i64 0, .int .i64 0, .int .i64 0, .int .i64 0, .string ⟨#[]⟩, .int .i64 0] rfl rfl (cell_six_at _ _ _ _ _ _ _ _ _ rfl) (by simp [Value.oneCell']) (by unfold maxLen; omega) (by omega) (by (simp; omega)) ?_; intro v4 w4 hown' hgrow _; obtain ⟨F4, R4, W4, BB4, zz4⟩ := APPF v4 w4 hown' hgrow; clear hown' hgrow)
          | (go_at_call 15; refine (plain_k m _ _ (R4.out.up (by omega))).mono ?_; rintro e w5 ⟨v5, rfl, r5, b5⟩; have F5 := hide ((b5.block _ (by omega)).trans F4.out); have P5 := hide (show RawAt w5 w5.heap.size v5 ((endd (l.map Tq.tk)).map tq0) from (by rw [← hm.out]; exact raw_row r5 (by rw [List.length_map]; omega))); have Q5 := hide ((W4.out.below b5).up b5.size); have B5 := hide (ktrans BB4.out b5); have z5 : w2.heap.size < w5.heap.size := (by (have := b5.size; omega)); clear b5 r5)
          | (go_at_call 9; refine (same_yes _ _ _ _ P5.out Q5.out).mono ?_; rintro e w6 ⟨rfl, b6⟩; have g6 := (b6.block _ z5).trans F5.out; have f0 := kcells_at g6 0 _ rfl; have f1 := kcells_at g6 1 _ rfl; have f2 := kcells_at g6 2 _ rfl; have f3 := kcells_at g6 3 _ rfl; have B6 := hide (ktrans B5.out b6); clear b6 g6)
          | (go_at_call 10; refine (heads9_k _ (HT.out.below B6.out)).mono ?_; rintro e w7 ⟨rfl, b7⟩; have B7 := hide (ktrans B6.out b7); clear b7))
        go_ret
        exact ⟨rfl, B7.out⟩
end Go.Proofs.YthpkjehoogodkaaDoor
