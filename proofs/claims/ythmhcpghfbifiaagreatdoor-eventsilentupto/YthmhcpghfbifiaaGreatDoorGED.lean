/- The value of a line. -/
import Derived.Test.YthmhcpghfbifiaaGreatDoorGEC
import Derived.Test.YthmhcpghfbifiaaGreatDoorGParC
import Derived.Test.YthmhcpghfbifiaaGreatDoorGGvA
import Derived.Test.YthmhcpghfbifiaaGreatDoorGEA
import Derived.Shelf.Strings.SlTrimAscii
namespace Go.Proofs.YthmhcpghfbifiaaGreatDoor
open Go.RowKit

theorem trim_k (l : List UInt8) (hl : l.length ≤ 1048576) (w : World) :
    Calls Tryz.prog 67 #[.string (str l), .string ⟨#[32, 9, 13]⟩] w fun e w' => e = .returned (.string (str (trimR l))) ∧ Below w.heap.size w w' := by
  have h := Any.strings_TrimRight_laid Tryz.lays162 (by kernel_rfl) (str l) ⟨#[32, 9, 13]⟩ w (by rw [str_size]; omega) (by decide) (ascii_of_all (by decide))
  rw [bytes_str] at h
  exact h
/-- What value comes to. -/
def VaR (w : World) (s said : List UInt8) (start rd : Nat) (e : Ending) (w' : World) : Prop :=
  Below w.heap.size w w' ∧ match valM6 said rd with
  | .ok v => ∃ s', e = .returned (.agg (vcells v s')) ∧ ItemsIn w' (fun b => w.heap.size ≤ b ∧ b < w'.heap.size) 16 s' v.items
  | .error (c, o) => e = gaveIn s c (start + o)
set_option maxRecDepth 100000 in
set_option maxHeartbeats 4000000 in
theorem value6_k (w : World) (rb : Nat) (s said : List UInt8) (start rd : Nat) (ws : Value) (hs : s.length ≤ 1000000000000) (hst : start + said.length ≤ 1000000000001) (hsd : said.length ≤ 1048576) (hrd : rd ≤ said.length) (hT : Tabs w) (hP : LrAt w rb s start said ws rd) :
    Calls Tryz.prog 47 #[.pointer (some ⟨rb, 0, none⟩)] w fun e w' => VaR w s said start rd e w' := by
  have hrb : rb < w.heap.size := (Array.getElem?_eq_some_iff.1 hP).1
  obtain ⟨W, hW⟩ : ∃ W, w.alloc (.cells zcells 46) = W := ⟨_, rfl⟩
  have bW : Below w.heap.size w W := by rw [← hW]; exact alloc_v (Below.refl _ _) _
  have zW : W.heap.size = w.heap.size + 1 := by rw [← hW]; simp
  have e1 : W.heap[w.heap.size]? = some (.cells zcells 46 (0, 0)) := by rw [← hW]; exact World.alloc_heap_new w _
  have hPW : LrAt W rb s start said ws rd := (bW.block _ hrb).trans hP
  obtain ⟨t, ht⟩ : ∃ t, trimR (said.drop rd) = t := ⟨_, rfl⟩
  have htl : t.length ≤ said.length - rd := by rw [← ht]; have := trimR_len (said.drop rd); rwa [List.length_drop] at this
  have hsz : (str said).size = said.length := str_size _
  have hsz2 : (str t).size = t.length := str_size _
  have hext : (str said).extract rd said.length = str (said.drop rd) := by
    rw [extract_str, bytes_str, List.take_of_length_le (by rw [List.length_drop]; exact Nat.le_refl _)]
  have hcl : ∀ o : Nat, clamp (str t) o ≤ t.length := fun o => by unfold clamp; rw [hsz2]; omega
  have u2 := fun q : Wv W => q.cell (cells_at hPW 2 _ rfl)
  have u4 := fun q : Wv W => q.cell (cells_at hPW 4 _ rfl)
  have HTR := hide (fun q : Wv W => trim_k (said.drop rd) (by rw [List.length_drop]; omega) q.val)
  rw [ht] at HTR
  have HPA := hide (fun q : Wv W => parse_k q.val t (by omega) ((hT.below bW).below q.below))
  have HGU := hide (fun (U : World) (b : Below w.heap.size w U) (c : Int) (o : Nat) (ho : o ≤ said.length) => giveUp6_k U rb s said start rd o ws c ((b.block _ hrb).trans hP) hs (by omega))
  have HR := hide (fun (U : World) (b : Below w.heap.size w U) => (b.block _ hrb).trans hP)
  have hany := Wv.any W
  have hi0 : (0 : Int) ≤ (rd : Int) := by omega
  have hi1 : (rd : Int) ≤ (said.length : Int) := by omega
  have HE1 := hide e1
  have HC := hide hcl
  unfold VaR valM6
  rw [ht]
  unfold ParR at HPA
  cases hp : parM t with
  | ok v =>
    rw [hp] at HPA
    obtain ⟨vk, vi, vm, vt, vl⟩ := v
    simp only at HPA ⊢
    clear hPW hP hT hp e1 HGU hcl
    go_enter Tryz.func47, Tryz.ntmps47
    go_wp2
    refine wp_region_grown (by kernel_rfl) (by kernel_rfl) ?_
    repeat (go_big_quiet_step ((go_at_call 67; exact Wv.calls _ (HTR.out _))))
    refine wpQuiet_nil ?_
    intro w1 hw'
    obtain ⟨qq, rfl⟩ := hw'
    have HP2 := hide (HPA.out qq)
    clear u2 u4 HTR hany HPA
    go_wp2_with (go_at_call 68; refine HP2.out.mono ?_; clear HP2; rintro e w2 ⟨⟨s2, rfl, i2⟩, b2⟩; obtain ⟨sa, sc, rfl, _⟩ := i2.len; obtain ⟨w3, hw3⟩ : ∃ w3, (w2.alloc (.cells #[.int .i64 vk, .int .i64 vi, .int .i64 vm, .string vt, .slice sa vl.length sc] 46)).alloc (.cells #[.int .i64 0, .int .i64 0, .int .i64 0, .int .i64 0] 34) = w3 := ⟨_, rfl⟩; have b3 : Below w2.heap.size w2 w3 := (by rw [← hw3]; exact alloc_v (alloc_v (Below.refl _ _) _) _); have e4 : w3.heap[w2.heap.size]? = some (.cells #[.int .i64 vk, .int .i64 vi, .int .i64 vm, .string vt, .slice sa vl.length sc] 46 (0, 0)) := (by rw [← hw3]; exact (Below.heap_alloc _ _ _ (by simp)).trans (World.alloc_heap_new w2 _)); have e5 : w3.heap[w2.heap.size + 1]? = some (.cells #[.int .i64 0, .int .i64 0, .int .i64 0, .int .i64 0] 34 (0, 0)) := (by rw [← hw3]; have := World.alloc_heap_new (w2.alloc (.cells #[.int .i64 vk, .int .i64 vi, .int .i64 vm, .string vt, .slice sa vl.length sc] 46)) (.cells #[.int .i64 0, .int .i64 0, .int .i64 0, .int .i64 0] 34); rwa [World.size_alloc] at this); have y0 := cells_at e4 0 _ rfl; have y1 := cells_at e4 1 _ rfl; have y2 := cells_at e4 2 _ rfl; have y3 := cells_at e4 3 _ rfl; have y4 := cells_at e4 4 _ rfl; have x0 := cells_at e5 0 _ rfl; have bq := trans_v qq.below b2; have f3 := ((trans_v bq b3).block w.heap.size (by omega)).trans HE1.out; have r0 := cells_at f3 0 _ rfl; have rz0 := frozen_at f3 0; have r1 := cells_at f3 1 _ rfl; have rz1 := frozen_at f3 1; have r2 := cells_at f3 2 _ rfl; have rz2 := frozen_at f3 2; have r3 := cells_at f3 3 _ rfl; have rz3 := frozen_at f3 3; have r4 := cells_at f3 4 _ rfl; have rz4 := frozen_at f3 4; have ne : w2.heap.size ≠ w.heap.size := (by have := bq.size; omega); have F3 := hide f3; have BQ := hide (trans_v bW (trans_v bq b3)); have I2 := hide (And.intro i2 (And.intro b3 qq.below.size)); clear b2 b3 bq f3 e4 e5 i2; subst hw3)
    generalize hw3 : (w2.alloc (.cells #[.int .i64 vk, .int .i64 vi, .int .i64 vm, .string vt, .slice sa vl.length sc] 46)).alloc (.cells #[.int .i64 0, .int .i64 0, .int .i64 0, .int .i64 0] 34) = w3 at *
    have G := stored w w3 vk vi vm vt (.slice sa vl.length sc) zcells w.heap.size (Nat.le_refl _) BQ.out rfl F3.out
    refine bodyPost_ret (results_cell_row rfl _ _ w.heap.size _ _ _ _ rfl G.1 Tryz.underlying46 rfl infoVal5) rfl ?_
    refine ⟨G.2, _, rfl, I2.out.1.kept (fun b o hb => ?_) (fun b hb => ?_)⟩
    · rw [stored_cell2 _ _ _ _ _ _ _ _ _ (by have := I2.out.2.2; omega)]
      exact World.cell?_of_block (I2.out.2.1.block b hb.2)
    · have h3 := I2.out.2.1.size
      have h4 := I2.out.2.2
      have h5 : w3.heap.size = (((((w3.setCell ⟨w.heap.size, 0, none⟩ (.int .i64 vk)).setCell ⟨w.heap.size, 1, none⟩ (.int .i64 vi)).setCell ⟨w.heap.size, 2, none⟩ (.int .i64 vm)).setCell ⟨w.heap.size, 3, none⟩ (.string vt)).setCell ⟨w.heap.size, 4, none⟩ (.slice sa vl.length sc)).heap.size := by simp [World.setCell]
      omega
  | error z =>
    obtain ⟨c, o⟩ := z
    have hc0 : ¬ c = 0 := by
      have := parM_code hp
      unfold CodeOk at this
      omega
    rw [hp] at HPA
    simp only at HPA ⊢
    have hne : (c == 0) = false := by simpa using hc0
    obtain ⟨k, hk⟩ : ∃ k, clamp (str t) o = k := ⟨_, rfl⟩
    have hk1 : k ≤ t.length := by rw [← hk]; exact hcl o
    unfold fcells at HPA
    rw [hk] at HPA ⊢
    generalize (atR k 0 1 1 (ru t)).1 = ln at *
    generalize (atR k 0 1 1 (ru t)).2 = cl at *
    by_cases hkt : k = t.length
    · rw [if_pos hkt]
      have hq : ((k : Int) == (t.length : Int)) = true := by simp; omega
      have HG := hide (fun (U : World) (b : Below w.heap.size w U) => HGU.out U b c said.length (Nat.le_refl _))
      clear hPW hP hT hp e1 HGU hcl hk hk1 hc0 hkt
      go_enter Tryz.func47, Tryz.ntmps47
      go_wp2
      refine wp_region_grown (by kernel_rfl) (by kernel_rfl) ?_
      repeat (go_big_quiet_step ((go_at_call 67; exact Wv.calls _ (HTR.out _))))
      refine wpQuiet_nil ?_
      intro w1 hw'
      obtain ⟨qq, rfl⟩ := hw'
      have HP2 := hide (HPA.out qq)
      clear u2 u4 HTR hany HPA
      go_wp2_with (go_at_call 68; refine HP2.out.mono ?_; clear HP2; rintro e w2 ⟨rfl, b2⟩; obtain ⟨w3, hw3⟩ : ∃ w3, (w2.alloc (.cells #[.int .i64 0, .int .i64 0, .int .i64 0, .string ⟨#[]⟩, .slice none 0 0] 46)).alloc (.cells #[.int .i64 c, .int .i64 k, .int .i64 ln, .int .i64 cl] 34) = w3 := ⟨_, rfl⟩; have b3 : Below w2.heap.size w2 w3 := (by rw [← hw3]; exact alloc_v (alloc_v (Below.refl _ _) _) _); have e4 : w3.heap[w2.heap.size]? = some (.cells #[.int .i64 0, .int .i64 0, .int .i64 0, .string ⟨#[]⟩, .slice none 0 0] 46 (0, 0)) := (by rw [← hw3]; exact (Below.heap_alloc _ _ _ (by simp)).trans (World.alloc_heap_new w2 _)); have e5 : w3.heap[w2.heap.size + 1]? = some (.cells #[.int .i64 c, .int .i64 k, .int .i64 ln, .int .i64 cl] 34 (0, 0)) := (by rw [← hw3]; have := World.alloc_heap_new (w2.alloc (.cells #[.int .i64 0, .int .i64 0, .int .i64 0, .string ⟨#[]⟩, .slice none 0 0] 46)) (.cells #[.int .i64 c, .int .i64 k, .int .i64 ln, .int .i64 cl] 34); rwa [World.size_alloc] at this); have x0 := cells_at e5 0 _ rfl; have x1 := cells_at e5 1 _ rfl; have bq := trans_v (trans_v bW (trans_v qq.below b2)) b3; have BQ := hide bq; have E5 := hide e5; have RB := hide (HR.out _ bq); clear b2 b3 bq e4 e5; subst hw3)
      generalize hw3 : (w2.alloc (.cells #[.int .i64 0, .int .i64 0, .int .i64 0, .string ⟨#[]⟩, .slice none 0 0] 46)).alloc (.cells #[.int .i64 c, .int .i64 k, .int .i64 ln, .int .i64 cl] 34) = w3 at *
      generalize w2.heap.size + 1 = fb at *
      have v2 := fun q : Wv w3 => q.cell (cells_at RB.out 2 _ rfl)
      have v5 := fun q : Wv w3 => q.cell (cells_at E5.out 0 _ rfl)
      have HG2 := hide (fun q : Wv w3 => HG.out q.val (trans_v BQ.out q.below))
      have hany := Wv.any w3
      clear x0 x1 HR HG
      refine wp_region_grown_tail 8 (by kernel_rfl) (by kernel_rfl) ?_
      simp only [List.take_succ_cons, List.take_zero, List.drop_succ_cons, List.drop_zero]
      repeat (go_big_quiet_step (fail))
      refine wpQuiet_nil ?_
      intro w4 hw'
      obtain ⟨q4, rfl⟩ := hw'
      have HG3 := hide (HG2.out q4)
      clear v2 v5 HG2 hany
      go_wp2_with (go_at_call 46; refine HG3.out.mono ?_; clear HG3; rintro e w5 ⟨rfl, b5⟩; have B5 := hide b5; clear b5)
      exact ⟨rfl, trans_v BQ.out (trans_v q4.below B5.out), rfl⟩
    · rw [if_neg hkt]
      have hq : ((k : Int) == (t.length : Int)) = false := by simp; omega
      have hadd : IntKind.i64.wrap ((rd : Int) + (k : Int)) = ((rd + k : Nat) : Int) := by rw [IntKind.wrap_i64]; omega
      have HG := hide (fun (U : World) (b : Below w.heap.size w U) => HGU.out U b c (rd + k) (by omega))
      clear hPW hP hT hp e1 HGU hcl hk hk1 hc0 hkt
      go_enter Tryz.func47, Tryz.ntmps47
      go_wp2
      refine wp_region_grown (by kernel_rfl) (by kernel_rfl) ?_
      repeat (go_big_quiet_step ((go_at_call 67; exact Wv.calls _ (HTR.out _))))
      refine wpQuiet_nil ?_
      intro w1 hw'
      obtain ⟨qq, rfl⟩ := hw'
      have HP2 := hide (HPA.out qq)
      clear u2 u4 HTR hany HPA
      go_wp2_with (go_at_call 68; refine HP2.out.mono ?_; clear HP2; rintro e w2 ⟨rfl, b2⟩; obtain ⟨w3, hw3⟩ : ∃ w3, (w2.alloc (.cells #[.int .i64 0, .int .i64 0, .int .i64 0, .string ⟨#[]⟩, .slice none 0 0] 46)).alloc (.cells #[.int .i64 c, .int .i64 k, .int .i64 ln, .int .i64 cl] 34) = w3 := ⟨_, rfl⟩; have b3 : Below w2.heap.size w2 w3 := (by rw [← hw3]; exact alloc_v (alloc_v (Below.refl _ _) _) _); have e4 : w3.heap[w2.heap.size]? = some (.cells #[.int .i64 0, .int .i64 0, .int .i64 0, .string ⟨#[]⟩, .slice none 0 0] 46 (0, 0)) := (by rw [← hw3]; exact (Below.heap_alloc _ _ _ (by simp)).trans (World.alloc_heap_new w2 _)); have e5 : w3.heap[w2.heap.size + 1]? = some (.cells #[.int .i64 c, .int .i64 k, .int .i64 ln, .int .i64 cl] 34 (0, 0)) := (by rw [← hw3]; have := World.alloc_heap_new (w2.alloc (.cells #[.int .i64 0, .int .i64 0, .int .i64 0, .string ⟨#[]⟩, .slice none 0 0] 46)) (.cells #[.int .i64 c, .int .i64 k, .int .i64 ln, .int .i64 cl] 34); rwa [World.size_alloc] at this); have x0 := cells_at e5 0 _ rfl; have x1 := cells_at e5 1 _ rfl; have bq := trans_v (trans_v bW (trans_v qq.below b2)) b3; have BQ := hide bq; have E5 := hide e5; have RB := hide (HR.out _ bq); clear b2 b3 bq e4 e5; subst hw3)
      generalize hw3 : (w2.alloc (.cells #[.int .i64 0, .int .i64 0, .int .i64 0, .string ⟨#[]⟩, .slice none 0 0] 46)).alloc (.cells #[.int .i64 c, .int .i64 k, .int .i64 ln, .int .i64 cl] 34) = w3 at *
      generalize w2.heap.size + 1 = fb at *
      have v4 := fun q : Wv w3 => q.cell (cells_at RB.out 4 _ rfl)
      have v5 := fun q : Wv w3 => q.cell (cells_at E5.out 0 _ rfl)
      have v6 := fun q : Wv w3 => q.cell (cells_at E5.out 1 _ rfl)
      have HG2 := hide (fun q : Wv w3 => HG.out q.val (trans_v BQ.out q.below))
      have hany := Wv.any w3
      clear x0 x1 HR HG
      refine wp_region_grown_tail 11 (by kernel_rfl) (by kernel_rfl) ?_
      simp only [List.take_succ_cons, List.take_zero, List.drop_succ_cons, List.drop_zero]
      repeat (go_big_quiet_step (fail))
      refine wpQuiet_nil ?_
      intro w4 hw'
      obtain ⟨q4, rfl⟩ := hw'
      have HG3 := hide (HG2.out q4)
      clear v4 v5 v6 HG2 hany
      go_wp2_with (go_at_call 46; refine HG3.out.mono ?_; clear HG3; rintro e w5 ⟨rfl, b5⟩; have B5 := hide b5; clear b5)
      exact ⟨rfl, trans_v BQ.out (trans_v q4.below B5.out), rfl⟩
end Go.Proofs.YthmhcpghfbifiaaGreatDoor

/- The event of a line. -/
namespace Go.Proofs.YthmhcpghfbifiaaGreatDoor
open Go.RowKit

/-- No event yet. -/
abbrev zeE : Evn := ⟨0, [], [], [], ⟨0, 0, 0, ⟨#[]⟩, []⟩, 0, 0, 0⟩
theorem infoEv12 : (Tryz.prog.info? 48).map (fun i => i.size) = some 12 := by kernel_rfl
/-- An event of a line in the making: its cells, what is left of the line. -/
structure St6 (w : World) (E rb B : Nat) (s said : List UInt8) (start : Nat) (n : Int) (V : World) (cs : List Value) (ws : Value) (rd : Nat) (l : List Wd) : Prop where
  ev : V.heap[E]? = some (.cells ⟨cs⟩ 48 (0, 0))
  rdr : LrAt V rb s start said ws rd
  wds : WsAt V rb B ws n l
  gr : w.grownBy V (some rb)
  hE : w.heap.size < E
  res : V.heap[w.heap.size]? = some (.cells (evCells zeE (.slice none 0 0)) 48 (0, 0))
  tabs : Tabs V
  hrb : rb < w.heap.size
  hB : B ≤ w.heap.size
  ho : rb ≠ 2 ∧ rb ≠ 0
  tw : 2 < w.heap.size ∧ 0 < w.heap.size
  hs : s.length ≤ 1000000000000
  hst : start + said.length ≤ 1000000000001
  hsd : said.length ≤ 1048576
  hrd : rd ≤ said.length
  ok : ∀ x ∈ l, x.off + x.text.length ≤ said.length
theorem St6.grow {w V V' : World} {E rb B : Nat} {s said : List UInt8} {start : Nat} {n : Int} {cs : List Value} {ws ws' : Value} {rd rd' : Nat} {l l' : List Wd} (h : St6 w E rb B s said start n V cs ws rd l) (g : V.grownBy V' (some rb)) (hr : LrAt V' rb s start said ws' rd') (hw : WsAt V' rb B ws' n l') (hrd : rd' ≤ said.length) (hl : ∀ x ∈ l', x ∈ l) : St6 w E rb B s said start n V' cs ws' rd' l' := by
  have hEl : E < V.heap.size := (Array.getElem?_eq_some_iff.1 h.ev).1
  have h1 := h.hE
  have h2 := h.hrb
  exact ⟨(g.block E hEl (by simp; omega)).trans h.ev, hr, hw, grown_more h.gr g, h.hE, (g.block _ (by omega) (by simp; omega)).trans h.res, h.tabs.grown g (Ne.symm h.ho.1) (Ne.symm h.ho.2), h.hrb, h.hB, h.ho, h.tw, h.hs, h.hst, h.hsd, hrd, fun x hx => h.ok x (hl x hx)⟩
theorem St6.set {w V : World} {E rb B : Nat} {s said : List UInt8} {start : Nat} {n : Int} {cs : List Value} {ws : Value} {rd : Nat} {l : List Wd} (h : St6 w E rb B s said start n V cs ws rd l) (i : Nat) (v : Value) : St6 w E rb B s said start n (V.setCell ⟨E, i, none⟩ v) (cs.set i v) ws rd l := by
  have h1 := h.hE
  have h2 := h.hrb
  have h3 := h.hB
  have hk : ∀ k, k < E → (V.setCell ⟨E, i, none⟩ v).heap[k]? = V.heap[k]? := fun k hk => Below.heap_setCell _ _ _ _ (by show k ≠ E; omega)
  have e := heap_setCell_same V E i _ _ v h.ev
  rw [List.setIfInBounds_toArray] at e
  exact ⟨e, (hk rb (by omega)).trans h.rdr, h.wds.kept fun k hk' _ => hk k (by omega), grown_far h.gr (by omega), h.hE, (hk _ h1).trans h.res, by
    obtain ⟨t, z, e1⟩ := h.tabs.pow
    obtain ⟨t', z', e2⟩ := h.tabs.lets
    have := h.tw
    exact ⟨⟨t, z, (hk _ (by omega)).trans e1⟩, ⟨t', z', (hk _ (by omega)).trans e2⟩⟩, h.hrb, h.hB, h.ho, h.tw, h.hs, h.hst, h.hsd, h.hrd, h.ok⟩
theorem St6.name {w V : World} {E rb B : Nat} {s said : List UInt8} {start : Nat} {n : Int} {cs : List Value} {ws : Value} {rd : Nat} {l : List Wd} (h : St6 w E rb B s said start n V cs ws rd l) (p : Bool) {t : List UInt8} {l' : List Wd} {rd' : Nat} (hn : nameM6 p said l = .ok (t, l', rd')) :
    Calls Tryz.prog 45 #[.pointer (some ⟨rb, 0, none⟩), .func (.func (if p = true then 28 else 29)) #[] #[]] V fun e w' => e = .returned (.string (bsN t)) ∧ ∃ ws', St6 w E rb B s said start n w' cs ws' rd' l' := by
  refine (name6_k V rb B s said start rd n ws p l h.hs h.hst (fun x hx => by have := h.ok x hx; have := h.hst; omega) h.tabs h.ho (Nat.le_trans h.hB h.gr.size) h.rdr h.wds).mono ?_
  rintro e w' ⟨g, hm⟩
  rw [hn] at hm
  obtain ⟨he, ws', h1, h2⟩ := hm
  refine ⟨he, ws', h.grow g h1 h2 ?_ ?_⟩
  · cases l with
    | nil => cases hn
    | cons x r =>
      simp only [nameM6] at hn
      split at hn
      · cases hn
        exact h.ok x (by simp)
      · cases hn
  · cases l with
    | nil => cases hn
    | cons x r =>
      simp only [nameM6] at hn
      split at hn
      · cases hn
        exact fun y hy => by simp [hy]
      · cases hn
theorem St6.noName {w V : World} {E rb B : Nat} {s said : List UInt8} {start : Nat} {n : Int} {cs : List Value} {ws : Value} {rd : Nat} {l : List Wd} (h : St6 w E rb B s said start n V cs ws rd l) (p : Bool) {c : Int} {o : Nat} (hn : nameM6 p said l = .error (c, o)) :
    Calls Tryz.prog 45 #[.pointer (some ⟨rb, 0, none⟩), .func (.func (if p = true then 28 else 29)) #[] #[]] V fun e w' => e = gaveIn s c (start + o) ∧ w.grownBy w' (some rb) := by
  refine (name6_k V rb B s said start rd n ws p l h.hs h.hst (fun x hx => by have := h.ok x hx; have := h.hst; omega) h.tabs h.ho (Nat.le_trans h.hB h.gr.size) h.rdr h.wds).mono ?_
  rintro e w' ⟨g, hm⟩
  rw [hn] at hm
  exact ⟨hm, grown_more h.gr g⟩
theorem St6.value {w V : World} {E rb B : Nat} {s said : List UInt8} {start : Nat} {n : Int} {cs : List Value} {ws : Value} {rd : Nat} {l : List Wd} (h : St6 w E rb B s said start n V cs ws rd l) {v : Vl} (hv : valM6 said rd = .ok v) :
    Calls Tryz.prog 47 #[.pointer (some ⟨rb, 0, none⟩)] V fun e w' => (∃ s', e = .returned (.agg (vcells v s')) ∧ ItemsIn w' (fun b => V.heap.size ≤ b ∧ b < w'.heap.size) 16 s' v.items) ∧ Below V.heap.size V w' ∧ St6 w E rb B s said start n w' cs ws rd l := by
  refine (value6_k V rb s said start rd ws h.hs h.hst h.hsd h.hrd h.tabs h.rdr).mono ?_
  rintro e w' ⟨b, hm⟩
  rw [hv] at hm
  have hrb' : rb < V.heap.size := (Array.getElem?_eq_some_iff.1 h.rdr).1
  exact ⟨hm, b, h.grow (grown_of_below b) ((b.block _ hrb').trans h.rdr) (h.wds.grown (Nat.le_trans h.hB h.gr.size) (grown_of_below b)) h.hrd (fun _ hx => hx)⟩
theorem St6.noValue {w V : World} {E rb B : Nat} {s said : List UInt8} {start : Nat} {n : Int} {cs : List Value} {ws : Value} {rd : Nat} {l : List Wd} (h : St6 w E rb B s said start n V cs ws rd l) {c : Int} {o : Nat} (hv : valM6 said rd = .error (c, o)) :
    Calls Tryz.prog 47 #[.pointer (some ⟨rb, 0, none⟩)] V fun e w' => e = gaveIn s c (start + o) ∧ w.grownBy w' (some rb) := by
  refine (value6_k V rb s said start rd ws h.hs h.hst h.hsd h.hrd h.tabs h.rdr).mono ?_
  rintro e w' ⟨b, hm⟩
  rw [hv] at hm
  exact ⟨hm, grown_more h.gr (grown_of_below b)⟩
theorem St6.give {w V : World} {E rb B : Nat} {s said : List UInt8} {start : Nat} {n : Int} {cs : List Value} {ws : Value} {rd : Nat} {l : List Wd} (h : St6 w E rb B s said start n V cs ws rd l) (c : Int) (o : Nat) (ho : o ≤ said.length) :
    Calls Tryz.prog 46 #[.pointer (some ⟨rb, 0, none⟩), .int .i64 c, .int .i64 o] V fun e w' => e = gaveIn s c (start + o) ∧ w.grownBy w' (some rb) := by
  refine (giveUp6_k V rb s said start rd o ws c h.rdr h.hs (by have := h.hst; omega)).mono ?_
  rintro e w' ⟨he, b⟩
  exact ⟨he, grown_more h.gr (grown_of_below b)⟩
/-- What event comes to. -/
def EvR (w : World) (rb : Nat) (s said : List UInt8) (start n : Nat) (l : List Wd) (e : Ending) (w' : World) : Prop :=
  w.grownBy w' (some rb) ∧ match evM6 said n start l with
  | .ok x => ∃ s', e = .returned (.agg (evCells x s')) ∧ ItemsIn w' (fun b => w.heap.size ≤ b ∧ b < w'.heap.size) 16 s' x.val.items
  | .error (c, o) => e = gaveIn s c (start + o)
theorem EvR.of_ok {w w' : World} {rb : Nat} {s said : List UInt8} {start n : Nat} {l : List Wd} {e : Ending} {x : Evn} (h : evM6 said n start l = .ok x) (g : w.grownBy w' (some rb)) (s' : Value) (he : e = .returned (.agg (evCells x s'))) (hi : ItemsIn w' (fun b => w.heap.size ≤ b ∧ b < w'.heap.size) 16 s' x.val.items) : EvR w rb s said start n l e w' := by
  refine ⟨g, ?_⟩
  rw [h]
  exact ⟨s', he, hi⟩
theorem EvR.of_no {w w' : World} {rb : Nat} {s said : List UInt8} {start n : Nat} {l : List Wd} {e : Ending} {c : Int} {o : Nat} (h : evM6 said n start l = .error (c, o)) (g : w.grownBy w' (some rb)) (he : e = gaveIn s c (start + o)) : EvR w rb s said start n l e w' := by
  refine ⟨g, ?_⟩
  rw [h]
  exact he
/-- The event is what is answered. -/
theorem ev_end (w V Y : World) (E rb B : Nat) (s said : List UInt8) (start : Nat) (n : Int) (cs : List Value) (ws : Value) (rd : Nat) (l : List Wd) (h : St6 w E rb B s said start n V cs ws rd l) (x : Evn) (s' : Value)
    (hY : putN V w.heap.size 0 (evCells x s').toList = Y) : Y.heap[w.heap.size]? = some (.cells (evCells x s') 48 (0, 0)) ∧ w.grownBy Y (some rb) ∧ (∀ k, k ≠ w.heap.size → Y.heap[k]? = V.heap[k]?) ∧ Y.heap.size = V.heap.size := by
  subst hY
  have h1 := putN_at (evCells x s').toList 0 V _ h.res rfl
  exact ⟨h1, putN_far h.gr (Nat.le_refl _) _ _, fun k hk => putN_other hk _ _ _, putN_size _ _ _⟩

theorem ev_start (w W w1 V : World) (rb B : Nat) (s said : List UInt8) (start n : Nat) (x : Wd) (r : List Wd) (ws1 : Value) (hs : s.length ≤ 1000000000000) (hst : start + said.length ≤ 1000000000001) (hsd : said.length ≤ 1048576) (hok : ∀ y ∈ x :: r, y.off + y.text.length ≤ said.length) (hT : Tabs w) (ho : rb ≠ 2 ∧ rb ≠ 0) (hB : B ≤ w.heap.size) (hrb : rb < w.heap.size)
    (bW : Below w.heap.size w W) (zW : W.heap.size = w.heap.size + 1) (eW : W.heap[w.heap.size]? = some (.cells (evCells zeE (.slice none 0 0)) 48 (0, 0)))
    (p1 : LrAt w1 rb s start said ws1 (x.off + x.text.length)) (q1 : WsAt w1 rb B ws1 n r) (g1 : W.grownBy w1 (some rb)) (bV : Below w1.heap.size w1 V) (cs : List Value) (eV : V.heap[w1.heap.size + 1]? = some (.cells ⟨cs⟩ 48 (0, 0))) :
    St6 w (w1.heap.size + 1) rb B s said start n V cs ws1 (x.off + x.text.length) r := by
  have h1 := g1.size
  have gw : w.grownBy V (some rb) := grown_more (grown_of_below bW) (grown_more g1 (grown_of_below bV))
  exact ⟨eV, (bV.block _ (by omega)).trans p1, q1.grown (by omega) (grown_of_below bV), gw, by omega, (bV.block _ (by omega)).trans ((g1.block _ (by omega) (by simp; omega)).trans eW), hT.grown gw (Ne.symm ho.1) (Ne.symm ho.2), hrb, hB, ho, hT.room, hs, hst, hsd, hok x (by simp), fun y hy => hok y (by simp [hy])⟩

set_option maxRecDepth 100000 in
set_option maxHeartbeats 8000000 in
theorem ev_other (w : World) (rb B : Nat) (s said : List UInt8) (start rd n : Nat) (ws : Value) (x : Wd) (r : List Wd) (hs : s.length ≤ 1000000000000) (hst : start + said.length ≤ 1000000000001) (hsd : said.length ≤ 1048576) (hok : ∀ y ∈ x :: r, y.off + y.text.length ≤ said.length) (hT : Tabs w) (ho : rb ≠ 2 ∧ rb ≠ 0) (hB : B ≤ w.heap.size) (hP : LrAt w rb s start said ws rd) (hWs : WsAt w rb B ws n (x :: r)) (h1 : ¬ x.text = [105, 110, 118]) (h2 : ¬ x.text = [114, 101, 115]) :
    Calls Tryz.prog 23 #[.pointer (some ⟨rb, 0, none⟩)] w fun e w' => EvR w rb s said start n (x :: r) e w' := by
  have HF := hide (show evM6 said n start (x :: r) = .error (60, x.off) by
    simp only [evM6]
    rw [if_neg (show ¬ x.text = invL from h1), if_neg (show ¬ x.text = resL from h2)])
  have hq1 : (x.text == [105, 110, 118]) = false := by simpa using h1
  have hq2 : (x.text == [114, 101, 115]) = false := by simpa using h2
  clear h1 h2
  have hrb0 : rb < w.heap.size := (Array.getElem?_eq_some_iff.1 hP).1
  obtain ⟨W, hW⟩ : ∃ W, w.alloc (.cells (evCells zeE (.slice none 0 0)) 48) = W := ⟨_, rfl⟩
  have bW : Below w.heap.size w W := by rw [← hW]; exact alloc_v (Below.refl _ _) _
  have zW : W.heap.size = w.heap.size + 1 := by rw [← hW]; simp
  have eW : W.heap[w.heap.size]? = some (.cells (evCells zeE (.slice none 0 0)) 48 (0, 0)) := by rw [← hW]; exact World.alloc_heap_new w _
  have HW1 := hide (wordN_k W rb B s said start rd n ws x r (by omega) ((bW.block _ hrb0).trans hP) (hWs.kept fun k hk _ => bW.block k (by omega)))
  obtain ⟨po, hpo⟩ : ∃ po : Int, ((start + x.off : Nat) : Int) = po := ⟨_, rfl⟩
  have hadd : IntKind.i64.wrap ((x.off : Int) + (start : Int)) = po := by
    have := hok x (by simp)
    rw [IntKind.wrap_i64]
    omega
  have HPO := hide hpo
  clear hpo
  have HST := hide (fun (w1 V : World) (ws1 : Value) (p1 : LrAt w1 rb s start said ws1 (x.off + x.text.length)) (q1 : WsAt w1 rb B ws1 n r) (g1 : W.grownBy w1 (some rb)) (bV : Below w1.heap.size w1 V) (cs : List Value) (eV : V.heap[w1.heap.size + 1]? = some (.cells ⟨cs⟩ 48 (0, 0))) => ev_start w W w1 V rb B s said start n x r ws1 hs hst hsd hok hT ho hB hrb0 bW zW eW p1 q1 g1 bV cs eV)
  have HW2 : Hid (Calls Tryz.prog 44 #[.pointer (some ⟨rb, 0, none⟩)] W fun e w' => e = .returned (.agg #[.string (bsN x.text), .int .i64 x.off, .int .i64 n, .int .i64 x.col]) ∧ (∃ ws', LrAt w' rb s start said ws' (x.off + x.text.length) ∧ WsAt w' rb B ws' n r) ∧ W.grownBy w' (some rb)) := HW1
  have HOK := hide hok
  clear HW1 hP hWs hT ho hB hs hst hsd hok eW bW
  go_enter Tryz.func23, Tryz.ntmps23
  go_wp2_with (go_at_call 44; refine HW2.out.mono ?_; clear HW2; rintro e w1 ⟨rfl, ⟨ws1, p1, q1⟩, g1⟩; obtain ⟨V, hV⟩ : ∃ V, (w1.alloc (.cells #[.string (bsN x.text), .int .i64 x.off, .int .i64 n, .int .i64 x.col] 93)).alloc (.cells #[.int .i64 0, .string ⟨#[]⟩, .string ⟨#[]⟩, .string ⟨#[]⟩, .int .i64 0, .int .i64 0, .int .i64 0, .string ⟨#[]⟩, .slice none 0 0, .int .i64 x.off, .int .i64 n, .int .i64 x.col] 48) = V := ⟨_, rfl⟩; have bV : Below w1.heap.size w1 V := (by rw [← hV]; exact alloc_v (alloc_v (Below.refl _ _) _) _); have eD : V.heap[w1.heap.size]? = some (.cells #[.string (bsN x.text), .int .i64 x.off, .int .i64 n, .int .i64 x.col] 93 (0, 0)) := (by rw [← hV]; exact (Below.heap_alloc _ _ _ (by simp)).trans (World.alloc_heap_new w1 _)); have eV : V.heap[w1.heap.size + 1]? = some (.cells #[.int .i64 0, .string ⟨#[]⟩, .string ⟨#[]⟩, .string ⟨#[]⟩, .int .i64 0, .int .i64 0, .int .i64 0, .string ⟨#[]⟩, .slice none 0 0, .int .i64 x.off, .int .i64 n, .int .i64 x.col] 48 (0, 0)) := (by rw [← hV]; have := World.alloc_heap_new (w1.alloc (.cells #[.string (bsN x.text), .int .i64 x.off, .int .i64 n, .int .i64 x.col] 93)) (.cells #[.int .i64 0, .string ⟨#[]⟩, .string ⟨#[]⟩, .string ⟨#[]⟩, .int .i64 0, .int .i64 0, .int .i64 0, .string ⟨#[]⟩, .slice none 0 0, .int .i64 x.off, .int .i64 n, .int .i64 x.col] 48); rwa [World.size_alloc] at this); have S0 := hide (HST.out w1 V ws1 p1 q1 g1 bV _ eV); have c0 := World.alloc_heap_new w1 (.cells #[.string (bsN x.text), .int .i64 x.off, .int .i64 n, .int .i64 x.col] 93); have d0 := cells_at c0 0 _ rfl; have d1 := cells_at c0 1 _ rfl; have d2 := cells_at c0 2 _ rfl; have d3 := cells_at c0 3 _ rfl; have ED := hide (And.intro eD eV); have LT := hide (show rb < w1.heap.size from (Array.getElem?_eq_some_iff.1 p1).1); clear p1 q1 bV eD eV c0 HST; subst hV)
  generalize hV : (w1.alloc (.cells #[.string (bsN x.text), .int .i64 x.off, .int .i64 n, .int .i64 x.col] 93)).alloc (.cells #[.int .i64 0, .string ⟨#[]⟩, .string ⟨#[]⟩, .string ⟨#[]⟩, .int .i64 0, .int .i64 0, .int .i64 0, .string ⟨#[]⟩, .slice none 0 0, .int .i64 x.off, .int .i64 n, .int .i64 x.col] 48) = V at *
  have neD : w1.heap.size ≠ w1.heap.size + 1 := by omega
  generalize hEB : w1.heap.size + 1 = E at *
  have v1 := fun q : Wv V => q.cell (cells_at S0.out.rdr 1 _ rfl)
  have v9 := fun q : Wv V => q.cell (cells_at S0.out.ev 9 _ rfl)
  have hany := Wv.any V
  clear d0 d1 d2 d3
  refine wp_region_grown_tail 10 (by kernel_rfl) (by kernel_rfl) ?_
  simp only [List.take_succ_cons, List.take_zero, List.drop_succ_cons, List.drop_zero]
  repeat (go_big_quiet_step (fail))
  refine wpQuiet_nil ?_
  intro V1 hw'
  obtain ⟨q1, rfl⟩ := hw'
  clear v1 v9 hany
  have S1 : St6 w E rb B s said start n q1.val [.int .i64 0, .string ⟨#[]⟩, .string ⟨#[]⟩, .string ⟨#[]⟩, .int .i64 0, .int .i64 0, .int .i64 0, .string ⟨#[]⟩, .slice none 0 0, .int .i64 x.off, .int .i64 n, .int .i64 x.col] ws1 (x.off + x.text.length) r := S0.out.grow (grown_of_below q1.below) ((q1.below.block _ (Array.getElem?_eq_some_iff.1 S0.out.rdr).1).trans S0.out.rdr) (S0.out.wds.grown (Nat.le_trans S0.out.hB S0.out.gr.size) (grown_of_below q1.below)) S0.out.hrd (fun _ h => h)
  have z9 := frozen_at S1.ev 9
  have y9 := cells_at S1.ev 9 _ rfl
  have S2 := S1.set 9 (.int .i64 po)
  have eD1 := (Below.heap_setCell q1.val ⟨E, 9, none⟩ (.int .i64 po) w1.heap.size neD).trans ((q1.below.block _ (Array.getElem?_eq_some_iff.1 ED.out.1).1).trans ED.out.1)
  obtain ⟨V2, hV2⟩ : ∃ V2, q1.val.setCell ⟨E, 9, none⟩ (.int .i64 po) = V2 := ⟨_, rfl⟩
  rw [hV2] at S2 eD1
  simp only [List.set_cons_succ, List.set_cons_zero] at S2
  have d0 := cells_at eD1 0 _ rfl
  have d1 := cells_at eD1 1 _ rfl
  have HG := hide (S2.give 60 x.off (by have := HOK.out x (by simp); omega))
  clear S1 S2 S0
  go_wp2_with (go_at_call 46; refine HG.out.mono ?_; clear HG; rintro e w5 ⟨rfl, g5⟩; have G5 := hide g5; clear g5)
  exact ⟨rfl, EvR.of_no HF.out G5.out rfl⟩

set_option maxRecDepth 100000 in
set_option maxHeartbeats 8000000 in
theorem ev_i_0_name (w : World) (rb B : Nat) (s said : List UInt8) (start rd n : Nat) (ws : Value) (x : Wd) (r : List Wd) (hs : s.length ≤ 1000000000000) (hst : start + said.length ≤ 1000000000001) (hsd : said.length ≤ 1048576) (hok : ∀ y ∈ x :: r, y.off + y.text.length ≤ said.length) (hT : Tabs w) (ho : rb ≠ 2 ∧ rb ≠ 0) (hB : B ≤ w.heap.size) (hP : LrAt w rb s start said ws rd) (hWs : WsAt w rb B ws n (x :: r)) (h1 : x.text = [105, 110, 118]) (c : Int) (o : Nat) (hn : nameM6 true said r = .error (c, o)) :
    Calls Tryz.prog 23 #[.pointer (some ⟨rb, 0, none⟩)] w fun e w' => EvR w rb s said start n (x :: r) e w' := by
  have HF := hide (show evM6 said n start (x :: r) = .error (c, o) by
    simp only [evM6]
    rw [if_pos (show x.text = invL from h1)]
    simp only [hn])
  have hq1 : (x.text == [105, 110, 118]) = true := by simpa using h1
  clear h1
  have hrb0 : rb < w.heap.size := (Array.getElem?_eq_some_iff.1 hP).1
  obtain ⟨W, hW⟩ : ∃ W, w.alloc (.cells (evCells zeE (.slice none 0 0)) 48) = W := ⟨_, rfl⟩
  have bW : Below w.heap.size w W := by rw [← hW]; exact alloc_v (Below.refl _ _) _
  have zW : W.heap.size = w.heap.size + 1 := by rw [← hW]; simp
  have eW : W.heap[w.heap.size]? = some (.cells (evCells zeE (.slice none 0 0)) 48 (0, 0)) := by rw [← hW]; exact World.alloc_heap_new w _
  have HW1 := hide (wordN_k W rb B s said start rd n ws x r (by omega) ((bW.block _ hrb0).trans hP) (hWs.kept fun k hk _ => bW.block k (by omega)))
  obtain ⟨po, hpo⟩ : ∃ po : Int, ((start + x.off : Nat) : Int) = po := ⟨_, rfl⟩
  have hadd : IntKind.i64.wrap ((x.off : Int) + (start : Int)) = po := by
    have := hok x (by simp)
    rw [IntKind.wrap_i64]
    omega
  have HPO := hide hpo
  clear hpo
  have HST := hide (fun (w1 V : World) (ws1 : Value) (p1 : LrAt w1 rb s start said ws1 (x.off + x.text.length)) (q1 : WsAt w1 rb B ws1 n r) (g1 : W.grownBy w1 (some rb)) (bV : Below w1.heap.size w1 V) (cs : List Value) (eV : V.heap[w1.heap.size + 1]? = some (.cells ⟨cs⟩ 48 (0, 0))) => ev_start w W w1 V rb B s said start n x r ws1 hs hst hsd hok hT ho hB hrb0 bW zW eW p1 q1 g1 bV cs eV)
  have HW2 : Hid (Calls Tryz.prog 44 #[.pointer (some ⟨rb, 0, none⟩)] W fun e w' => e = .returned (.agg #[.string (bsN x.text), .int .i64 x.off, .int .i64 n, .int .i64 x.col]) ∧ (∃ ws', LrAt w' rb s start said ws' (x.off + x.text.length) ∧ WsAt w' rb B ws' n r) ∧ W.grownBy w' (some rb)) := HW1
  have HOK := hide hok
  clear HW1 hP hWs hT ho hB hs hst hsd hok eW bW
  go_enter Tryz.func23, Tryz.ntmps23
  go_wp2_with (go_at_call 44; refine HW2.out.mono ?_; clear HW2; rintro e w1 ⟨rfl, ⟨ws1, p1, q1⟩, g1⟩; obtain ⟨V, hV⟩ : ∃ V, (w1.alloc (.cells #[.string (bsN x.text), .int .i64 x.off, .int .i64 n, .int .i64 x.col] 93)).alloc (.cells #[.int .i64 0, .string ⟨#[]⟩, .string ⟨#[]⟩, .string ⟨#[]⟩, .int .i64 0, .int .i64 0, .int .i64 0, .string ⟨#[]⟩, .slice none 0 0, .int .i64 x.off, .int .i64 n, .int .i64 x.col] 48) = V := ⟨_, rfl⟩; have bV : Below w1.heap.size w1 V := (by rw [← hV]; exact alloc_v (alloc_v (Below.refl _ _) _) _); have eD : V.heap[w1.heap.size]? = some (.cells #[.string (bsN x.text), .int .i64 x.off, .int .i64 n, .int .i64 x.col] 93 (0, 0)) := (by rw [← hV]; exact (Below.heap_alloc _ _ _ (by simp)).trans (World.alloc_heap_new w1 _)); have eV : V.heap[w1.heap.size + 1]? = some (.cells #[.int .i64 0, .string ⟨#[]⟩, .string ⟨#[]⟩, .string ⟨#[]⟩, .int .i64 0, .int .i64 0, .int .i64 0, .string ⟨#[]⟩, .slice none 0 0, .int .i64 x.off, .int .i64 n, .int .i64 x.col] 48 (0, 0)) := (by rw [← hV]; have := World.alloc_heap_new (w1.alloc (.cells #[.string (bsN x.text), .int .i64 x.off, .int .i64 n, .int .i64 x.col] 93)) (.cells #[.int .i64 0, .string ⟨#[]⟩, .string ⟨#[]⟩, .string ⟨#[]⟩, .int .i64 0, .int .i64 0, .int .i64 0, .string ⟨#[]⟩, .slice none 0 0, .int .i64 x.off, .int .i64 n, .int .i64 x.col] 48); rwa [World.size_alloc] at this); have S0 := hide (HST.out w1 V ws1 p1 q1 g1 bV _ eV); have c0 := World.alloc_heap_new w1 (.cells #[.string (bsN x.text), .int .i64 x.off, .int .i64 n, .int .i64 x.col] 93); have d0 := cells_at c0 0 _ rfl; have d1 := cells_at c0 1 _ rfl; have d2 := cells_at c0 2 _ rfl; have d3 := cells_at c0 3 _ rfl; have ED := hide (And.intro eD eV); have LT := hide (show rb < w1.heap.size from (Array.getElem?_eq_some_iff.1 p1).1); clear p1 q1 bV eD eV c0 HST; subst hV)
  generalize hV : (w1.alloc (.cells #[.string (bsN x.text), .int .i64 x.off, .int .i64 n, .int .i64 x.col] 93)).alloc (.cells #[.int .i64 0, .string ⟨#[]⟩, .string ⟨#[]⟩, .string ⟨#[]⟩, .int .i64 0, .int .i64 0, .int .i64 0, .string ⟨#[]⟩, .slice none 0 0, .int .i64 x.off, .int .i64 n, .int .i64 x.col] 48) = V at *
  have neD : w1.heap.size ≠ w1.heap.size + 1 := by omega
  generalize hEB : w1.heap.size + 1 = E at *
  have v1 := fun q : Wv V => q.cell (cells_at S0.out.rdr 1 _ rfl)
  have v9 := fun q : Wv V => q.cell (cells_at S0.out.ev 9 _ rfl)
  have hany := Wv.any V
  clear d0 d1 d2 d3
  refine wp_region_grown_tail 10 (by kernel_rfl) (by kernel_rfl) ?_
  simp only [List.take_succ_cons, List.take_zero, List.drop_succ_cons, List.drop_zero]
  repeat (go_big_quiet_step (fail))
  refine wpQuiet_nil ?_
  intro V1 hw'
  obtain ⟨q1, rfl⟩ := hw'
  clear v1 v9 hany
  have S1 : St6 w E rb B s said start n q1.val [.int .i64 0, .string ⟨#[]⟩, .string ⟨#[]⟩, .string ⟨#[]⟩, .int .i64 0, .int .i64 0, .int .i64 0, .string ⟨#[]⟩, .slice none 0 0, .int .i64 x.off, .int .i64 n, .int .i64 x.col] ws1 (x.off + x.text.length) r := S0.out.grow (grown_of_below q1.below) ((q1.below.block _ (Array.getElem?_eq_some_iff.1 S0.out.rdr).1).trans S0.out.rdr) (S0.out.wds.grown (Nat.le_trans S0.out.hB S0.out.gr.size) (grown_of_below q1.below)) S0.out.hrd (fun _ h => h)
  have z9 := frozen_at S1.ev 9
  have y9 := cells_at S1.ev 9 _ rfl
  have S2 := S1.set 9 (.int .i64 po)
  have eD1 := (Below.heap_setCell q1.val ⟨E, 9, none⟩ (.int .i64 po) w1.heap.size neD).trans ((q1.below.block _ (Array.getElem?_eq_some_iff.1 ED.out.1).1).trans ED.out.1)
  obtain ⟨V2, hV2⟩ : ∃ V2, q1.val.setCell ⟨E, 9, none⟩ (.int .i64 po) = V2 := ⟨_, rfl⟩
  rw [hV2] at S2 eD1
  simp only [List.set_cons_succ, List.set_cons_zero] at S2
  have d0 := cells_at eD1 0 _ rfl
  have d1 := cells_at eD1 1 _ rfl
  have k0 := cells_at S2.ev 0 _ rfl
  have kz0 := frozen_at S2.ev 0
  have S3 := S2.set 0 (.int .i64 1)
  simp only [List.set_cons_zero] at S3
  have HN0 := hide (S3.noName true hn)
  clear S1 S2 S0 S3
  go_wp2_with (first
    | (go_at_call 45; refine HN0.out.mono ?_; clear HN0; rintro e u9 ⟨rfl, g9⟩; have G9 := hide g9; clear g9))
  exact ⟨rfl, EvR.of_no HF.out G9.out rfl⟩

set_option maxRecDepth 100000 in
set_option maxHeartbeats 8000000 in
theorem ev_i_1_name (w : World) (rb B : Nat) (s said : List UInt8) (start rd n : Nat) (ws : Value) (x : Wd) (r : List Wd) (hs : s.length ≤ 1000000000000) (hst : start + said.length ≤ 1000000000001) (hsd : said.length ≤ 1048576) (hok : ∀ y ∈ x :: r, y.off + y.text.length ≤ said.length) (hT : Tabs w) (ho : rb ≠ 2 ∧ rb ≠ 0) (hB : B ≤ w.heap.size) (hP : LrAt w rb s start said ws rd) (hWs : WsAt w rb B ws n (x :: r)) (h1 : x.text = [105, 110, 118]) (t0 : List UInt8) (l0 : List Wd) (rd0 : Nat) (hn0 : nameM6 true said r = .ok (t0, l0, rd0)) (c : Int) (o : Nat) (hn : nameM6 false said l0 = .error (c, o)) :
    Calls Tryz.prog 23 #[.pointer (some ⟨rb, 0, none⟩)] w fun e w' => EvR w rb s said start n (x :: r) e w' := by
  have HF := hide (show evM6 said n start (x :: r) = .error (c, o) by
    simp only [evM6]
    rw [if_pos (show x.text = invL from h1)]
    simp only [hn0, hn])
  have hq1 : (x.text == [105, 110, 118]) = true := by simpa using h1
  clear h1
  have hrb0 : rb < w.heap.size := (Array.getElem?_eq_some_iff.1 hP).1
  obtain ⟨W, hW⟩ : ∃ W, w.alloc (.cells (evCells zeE (.slice none 0 0)) 48) = W := ⟨_, rfl⟩
  have bW : Below w.heap.size w W := by rw [← hW]; exact alloc_v (Below.refl _ _) _
  have zW : W.heap.size = w.heap.size + 1 := by rw [← hW]; simp
  have eW : W.heap[w.heap.size]? = some (.cells (evCells zeE (.slice none 0 0)) 48 (0, 0)) := by rw [← hW]; exact World.alloc_heap_new w _
  have HW1 := hide (wordN_k W rb B s said start rd n ws x r (by omega) ((bW.block _ hrb0).trans hP) (hWs.kept fun k hk _ => bW.block k (by omega)))
  obtain ⟨po, hpo⟩ : ∃ po : Int, ((start + x.off : Nat) : Int) = po := ⟨_, rfl⟩
  have hadd : IntKind.i64.wrap ((x.off : Int) + (start : Int)) = po := by
    have := hok x (by simp)
    rw [IntKind.wrap_i64]
    omega
  have HPO := hide hpo
  clear hpo
  have HST := hide (fun (w1 V : World) (ws1 : Value) (p1 : LrAt w1 rb s start said ws1 (x.off + x.text.length)) (q1 : WsAt w1 rb B ws1 n r) (g1 : W.grownBy w1 (some rb)) (bV : Below w1.heap.size w1 V) (cs : List Value) (eV : V.heap[w1.heap.size + 1]? = some (.cells ⟨cs⟩ 48 (0, 0))) => ev_start w W w1 V rb B s said start n x r ws1 hs hst hsd hok hT ho hB hrb0 bW zW eW p1 q1 g1 bV cs eV)
  have HW2 : Hid (Calls Tryz.prog 44 #[.pointer (some ⟨rb, 0, none⟩)] W fun e w' => e = .returned (.agg #[.string (bsN x.text), .int .i64 x.off, .int .i64 n, .int .i64 x.col]) ∧ (∃ ws', LrAt w' rb s start said ws' (x.off + x.text.length) ∧ WsAt w' rb B ws' n r) ∧ W.grownBy w' (some rb)) := HW1
  have HOK := hide hok
  clear HW1 hP hWs hT ho hB hs hst hsd hok eW bW
  go_enter Tryz.func23, Tryz.ntmps23
  go_wp2_with (go_at_call 44; refine HW2.out.mono ?_; clear HW2; rintro e w1 ⟨rfl, ⟨ws1, p1, q1⟩, g1⟩; obtain ⟨V, hV⟩ : ∃ V, (w1.alloc (.cells #[.string (bsN x.text), .int .i64 x.off, .int .i64 n, .int .i64 x.col] 93)).alloc (.cells #[.int .i64 0, .string ⟨#[]⟩, .string ⟨#[]⟩, .string ⟨#[]⟩, .int .i64 0, .int .i64 0, .int .i64 0, .string ⟨#[]⟩, .slice none 0 0, .int .i64 x.off, .int .i64 n, .int .i64 x.col] 48) = V := ⟨_, rfl⟩; have bV : Below w1.heap.size w1 V := (by rw [← hV]; exact alloc_v (alloc_v (Below.refl _ _) _) _); have eD : V.heap[w1.heap.size]? = some (.cells #[.string (bsN x.text), .int .i64 x.off, .int .i64 n, .int .i64 x.col] 93 (0, 0)) := (by rw [← hV]; exact (Below.heap_alloc _ _ _ (by simp)).trans (World.alloc_heap_new w1 _)); have eV : V.heap[w1.heap.size + 1]? = some (.cells #[.int .i64 0, .string ⟨#[]⟩, .string ⟨#[]⟩, .string ⟨#[]⟩, .int .i64 0, .int .i64 0, .int .i64 0, .string ⟨#[]⟩, .slice none 0 0, .int .i64 x.off, .int .i64 n, .int .i64 x.col] 48 (0, 0)) := (by rw [← hV]; have := World.alloc_heap_new (w1.alloc (.cells #[.string (bsN x.text), .int .i64 x.off, .int .i64 n, .int .i64 x.col] 93)) (.cells #[.int .i64 0, .string ⟨#[]⟩, .string ⟨#[]⟩, .string ⟨#[]⟩, .int .i64 0, .int .i64 0, .int .i64 0, .string ⟨#[]⟩, .slice none 0 0, .int .i64 x.off, .int .i64 n, .int .i64 x.col] 48); rwa [World.size_alloc] at this); have S0 := hide (HST.out w1 V ws1 p1 q1 g1 bV _ eV); have c0 := World.alloc_heap_new w1 (.cells #[.string (bsN x.text), .int .i64 x.off, .int .i64 n, .int .i64 x.col] 93); have d0 := cells_at c0 0 _ rfl; have d1 := cells_at c0 1 _ rfl; have d2 := cells_at c0 2 _ rfl; have d3 := cells_at c0 3 _ rfl; have ED := hide (And.intro eD eV); have LT := hide (show rb < w1.heap.size from (Array.getElem?_eq_some_iff.1 p1).1); clear p1 q1 bV eD eV c0 HST; subst hV)
  generalize hV : (w1.alloc (.cells #[.string (bsN x.text), .int .i64 x.off, .int .i64 n, .int .i64 x.col] 93)).alloc (.cells #[.int .i64 0, .string ⟨#[]⟩, .string ⟨#[]⟩, .string ⟨#[]⟩, .int .i64 0, .int .i64 0, .int .i64 0, .string ⟨#[]⟩, .slice none 0 0, .int .i64 x.off, .int .i64 n, .int .i64 x.col] 48) = V at *
  have neD : w1.heap.size ≠ w1.heap.size + 1 := by omega
  generalize hEB : w1.heap.size + 1 = E at *
  have v1 := fun q : Wv V => q.cell (cells_at S0.out.rdr 1 _ rfl)
  have v9 := fun q : Wv V => q.cell (cells_at S0.out.ev 9 _ rfl)
  have hany := Wv.any V
  clear d0 d1 d2 d3
  refine wp_region_grown_tail 10 (by kernel_rfl) (by kernel_rfl) ?_
  simp only [List.take_succ_cons, List.take_zero, List.drop_succ_cons, List.drop_zero]
  repeat (go_big_quiet_step (fail))
  refine wpQuiet_nil ?_
  intro V1 hw'
  obtain ⟨q1, rfl⟩ := hw'
  clear v1 v9 hany
  have S1 : St6 w E rb B s said start n q1.val [.int .i64 0, .string ⟨#[]⟩, .string ⟨#[]⟩, .string ⟨#[]⟩, .int .i64 0, .int .i64 0, .int .i64 0, .string ⟨#[]⟩, .slice none 0 0, .int .i64 x.off, .int .i64 n, .int .i64 x.col] ws1 (x.off + x.text.length) r := S0.out.grow (grown_of_below q1.below) ((q1.below.block _ (Array.getElem?_eq_some_iff.1 S0.out.rdr).1).trans S0.out.rdr) (S0.out.wds.grown (Nat.le_trans S0.out.hB S0.out.gr.size) (grown_of_below q1.below)) S0.out.hrd (fun _ h => h)
  have z9 := frozen_at S1.ev 9
  have y9 := cells_at S1.ev 9 _ rfl
  have S2 := S1.set 9 (.int .i64 po)
  have eD1 := (Below.heap_setCell q1.val ⟨E, 9, none⟩ (.int .i64 po) w1.heap.size neD).trans ((q1.below.block _ (Array.getElem?_eq_some_iff.1 ED.out.1).1).trans ED.out.1)
  obtain ⟨V2, hV2⟩ : ∃ V2, q1.val.setCell ⟨E, 9, none⟩ (.int .i64 po) = V2 := ⟨_, rfl⟩
  rw [hV2] at S2 eD1
  simp only [List.set_cons_succ, List.set_cons_zero] at S2
  have d0 := cells_at eD1 0 _ rfl
  have d1 := cells_at eD1 1 _ rfl
  have k0 := cells_at S2.ev 0 _ rfl
  have kz0 := frozen_at S2.ev 0
  have S3 := S2.set 0 (.int .i64 1)
  simp only [List.set_cons_zero] at S3
  have HN0 := hide (S3.name true hn0)
  clear S1 S2 S0 S3
  go_wp2_with (first
    | (go_at_call 45; refine HN0.out.mono ?_; clear HN0; rintro e u0 ⟨rfl, ws5', T0⟩; have a1 := cells_at T0.ev 1 _ rfl; have az1 := frozen_at T0.ev 1; have R0 := T0.set 1 (.string (bsN t0)); simp only [List.set_cons_succ, List.set_cons_zero] at R0; have HN1 := hide (R0.noName false hn); clear T0 R0)
    | (go_at_call 45; refine HN1.out.mono ?_; clear HN1; rintro e u9 ⟨rfl, g9⟩; have G9 := hide g9; clear g9))
  exact ⟨rfl, EvR.of_no HF.out G9.out rfl⟩

set_option maxRecDepth 100000 in
set_option maxHeartbeats 8000000 in
theorem ev_i_2_name (w : World) (rb B : Nat) (s said : List UInt8) (start rd n : Nat) (ws : Value) (x : Wd) (r : List Wd) (hs : s.length ≤ 1000000000000) (hst : start + said.length ≤ 1000000000001) (hsd : said.length ≤ 1048576) (hok : ∀ y ∈ x :: r, y.off + y.text.length ≤ said.length) (hT : Tabs w) (ho : rb ≠ 2 ∧ rb ≠ 0) (hB : B ≤ w.heap.size) (hP : LrAt w rb s start said ws rd) (hWs : WsAt w rb B ws n (x :: r)) (h1 : x.text = [105, 110, 118]) (t0 : List UInt8) (l0 : List Wd) (rd0 : Nat) (hn0 : nameM6 true said r = .ok (t0, l0, rd0)) (t1 : List UInt8) (l1 : List Wd) (rd1 : Nat) (hn1 : nameM6 false said l0 = .ok (t1, l1, rd1)) (c : Int) (o : Nat) (hn : nameM6 true said l1 = .error (c, o)) :
    Calls Tryz.prog 23 #[.pointer (some ⟨rb, 0, none⟩)] w fun e w' => EvR w rb s said start n (x :: r) e w' := by
  have HF := hide (show evM6 said n start (x :: r) = .error (c, o) by
    simp only [evM6]
    rw [if_pos (show x.text = invL from h1)]
    simp only [hn0, hn1, hn])
  have hq1 : (x.text == [105, 110, 118]) = true := by simpa using h1
  clear h1
  have hrb0 : rb < w.heap.size := (Array.getElem?_eq_some_iff.1 hP).1
  obtain ⟨W, hW⟩ : ∃ W, w.alloc (.cells (evCells zeE (.slice none 0 0)) 48) = W := ⟨_, rfl⟩
  have bW : Below w.heap.size w W := by rw [← hW]; exact alloc_v (Below.refl _ _) _
  have zW : W.heap.size = w.heap.size + 1 := by rw [← hW]; simp
  have eW : W.heap[w.heap.size]? = some (.cells (evCells zeE (.slice none 0 0)) 48 (0, 0)) := by rw [← hW]; exact World.alloc_heap_new w _
  have HW1 := hide (wordN_k W rb B s said start rd n ws x r (by omega) ((bW.block _ hrb0).trans hP) (hWs.kept fun k hk _ => bW.block k (by omega)))
  obtain ⟨po, hpo⟩ : ∃ po : Int, ((start + x.off : Nat) : Int) = po := ⟨_, rfl⟩
  have hadd : IntKind.i64.wrap ((x.off : Int) + (start : Int)) = po := by
    have := hok x (by simp)
    rw [IntKind.wrap_i64]
    omega
  have HPO := hide hpo
  clear hpo
  have HST := hide (fun (w1 V : World) (ws1 : Value) (p1 : LrAt w1 rb s start said ws1 (x.off + x.text.length)) (q1 : WsAt w1 rb B ws1 n r) (g1 : W.grownBy w1 (some rb)) (bV : Below w1.heap.size w1 V) (cs : List Value) (eV : V.heap[w1.heap.size + 1]? = some (.cells ⟨cs⟩ 48 (0, 0))) => ev_start w W w1 V rb B s said start n x r ws1 hs hst hsd hok hT ho hB hrb0 bW zW eW p1 q1 g1 bV cs eV)
  have HW2 : Hid (Calls Tryz.prog 44 #[.pointer (some ⟨rb, 0, none⟩)] W fun e w' => e = .returned (.agg #[.string (bsN x.text), .int .i64 x.off, .int .i64 n, .int .i64 x.col]) ∧ (∃ ws', LrAt w' rb s start said ws' (x.off + x.text.length) ∧ WsAt w' rb B ws' n r) ∧ W.grownBy w' (some rb)) := HW1
  have HOK := hide hok
  clear HW1 hP hWs hT ho hB hs hst hsd hok eW bW
  go_enter Tryz.func23, Tryz.ntmps23
  go_wp2_with (go_at_call 44; refine HW2.out.mono ?_; clear HW2; rintro e w1 ⟨rfl, ⟨ws1, p1, q1⟩, g1⟩; obtain ⟨V, hV⟩ : ∃ V, (w1.alloc (.cells #[.string (bsN x.text), .int .i64 x.off, .int .i64 n, .int .i64 x.col] 93)).alloc (.cells #[.int .i64 0, .string ⟨#[]⟩, .string ⟨#[]⟩, .string ⟨#[]⟩, .int .i64 0, .int .i64 0, .int .i64 0, .string ⟨#[]⟩, .slice none 0 0, .int .i64 x.off, .int .i64 n, .int .i64 x.col] 48) = V := ⟨_, rfl⟩; have bV : Below w1.heap.size w1 V := (by rw [← hV]; exact alloc_v (alloc_v (Below.refl _ _) _) _); have eD : V.heap[w1.heap.size]? = some (.cells #[.string (bsN x.text), .int .i64 x.off, .int .i64 n, .int .i64 x.col] 93 (0, 0)) := (by rw [← hV]; exact (Below.heap_alloc _ _ _ (by simp)).trans (World.alloc_heap_new w1 _)); have eV : V.heap[w1.heap.size + 1]? = some (.cells #[.int .i64 0, .string ⟨#[]⟩, .string ⟨#[]⟩, .string ⟨#[]⟩, .int .i64 0, .int .i64 0, .int .i64 0, .string ⟨#[]⟩, .slice none 0 0, .int .i64 x.off, .int .i64 n, .int .i64 x.col] 48 (0, 0)) := (by rw [← hV]; have := World.alloc_heap_new (w1.alloc (.cells #[.string (bsN x.text), .int .i64 x.off, .int .i64 n, .int .i64 x.col] 93)) (.cells #[.int .i64 0, .string ⟨#[]⟩, .string ⟨#[]⟩, .string ⟨#[]⟩, .int .i64 0, .int .i64 0, .int .i64 0, .string ⟨#[]⟩, .slice none 0 0, .int .i64 x.off, .int .i64 n, .int .i64 x.col] 48); rwa [World.size_alloc] at this); have S0 := hide (HST.out w1 V ws1 p1 q1 g1 bV _ eV); have c0 := World.alloc_heap_new w1 (.cells #[.string (bsN x.text), .int .i64 x.off, .int .i64 n, .int .i64 x.col] 93); have d0 := cells_at c0 0 _ rfl; have d1 := cells_at c0 1 _ rfl; have d2 := cells_at c0 2 _ rfl; have d3 := cells_at c0 3 _ rfl; have ED := hide (And.intro eD eV); have LT := hide (show rb < w1.heap.size from (Array.getElem?_eq_some_iff.1 p1).1); clear p1 q1 bV eD eV c0 HST; subst hV)
  generalize hV : (w1.alloc (.cells #[.string (bsN x.text), .int .i64 x.off, .int .i64 n, .int .i64 x.col] 93)).alloc (.cells #[.int .i64 0, .string ⟨#[]⟩, .string ⟨#[]⟩, .string ⟨#[]⟩, .int .i64 0, .int .i64 0, .int .i64 0, .string ⟨#[]⟩, .slice none 0 0, .int .i64 x.off, .int .i64 n, .int .i64 x.col] 48) = V at *
  have neD : w1.heap.size ≠ w1.heap.size + 1 := by omega
  generalize hEB : w1.heap.size + 1 = E at *
  have v1 := fun q : Wv V => q.cell (cells_at S0.out.rdr 1 _ rfl)
  have v9 := fun q : Wv V => q.cell (cells_at S0.out.ev 9 _ rfl)
  have hany := Wv.any V
  clear d0 d1 d2 d3
  refine wp_region_grown_tail 10 (by kernel_rfl) (by kernel_rfl) ?_
  simp only [List.take_succ_cons, List.take_zero, List.drop_succ_cons, List.drop_zero]
  repeat (go_big_quiet_step (fail))
  refine wpQuiet_nil ?_
  intro V1 hw'
  obtain ⟨q1, rfl⟩ := hw'
  clear v1 v9 hany
  have S1 : St6 w E rb B s said start n q1.val [.int .i64 0, .string ⟨#[]⟩, .string ⟨#[]⟩, .string ⟨#[]⟩, .int .i64 0, .int .i64 0, .int .i64 0, .string ⟨#[]⟩, .slice none 0 0, .int .i64 x.off, .int .i64 n, .int .i64 x.col] ws1 (x.off + x.text.length) r := S0.out.grow (grown_of_below q1.below) ((q1.below.block _ (Array.getElem?_eq_some_iff.1 S0.out.rdr).1).trans S0.out.rdr) (S0.out.wds.grown (Nat.le_trans S0.out.hB S0.out.gr.size) (grown_of_below q1.below)) S0.out.hrd (fun _ h => h)
  have z9 := frozen_at S1.ev 9
  have y9 := cells_at S1.ev 9 _ rfl
  have S2 := S1.set 9 (.int .i64 po)
  have eD1 := (Below.heap_setCell q1.val ⟨E, 9, none⟩ (.int .i64 po) w1.heap.size neD).trans ((q1.below.block _ (Array.getElem?_eq_some_iff.1 ED.out.1).1).trans ED.out.1)
  obtain ⟨V2, hV2⟩ : ∃ V2, q1.val.setCell ⟨E, 9, none⟩ (.int .i64 po) = V2 := ⟨_, rfl⟩
  rw [hV2] at S2 eD1
  simp only [List.set_cons_succ, List.set_cons_zero] at S2
  have d0 := cells_at eD1 0 _ rfl
  have d1 := cells_at eD1 1 _ rfl
  have k0 := cells_at S2.ev 0 _ rfl
  have kz0 := frozen_at S2.ev 0
  have S3 := S2.set 0 (.int .i64 1)
  simp only [List.set_cons_zero] at S3
  have HN0 := hide (S3.name true hn0)
  clear S1 S2 S0 S3
  go_wp2_with (first
    | (go_at_call 45; refine HN0.out.mono ?_; clear HN0; rintro e u0 ⟨rfl, ws5', T0⟩; have a1 := cells_at T0.ev 1 _ rfl; have az1 := frozen_at T0.ev 1; have R0 := T0.set 1 (.string (bsN t0)); simp only [List.set_cons_succ, List.set_cons_zero] at R0; have HN1 := hide (R0.name false hn1); clear T0 R0)
    | (go_at_call 45; refine HN1.out.mono ?_; clear HN1; rintro e u1 ⟨rfl, ws6', T1⟩; have a2 := cells_at T1.ev 2 _ rfl; have az2 := frozen_at T1.ev 2; have R1 := T1.set 2 (.string (bsN t1)); simp only [List.set_cons_succ, List.set_cons_zero] at R1; have HN2 := hide (R1.noName true hn); clear T1 R1)
    | (go_at_call 45; refine HN2.out.mono ?_; clear HN2; rintro e u9 ⟨rfl, g9⟩; have G9 := hide g9; clear g9))
  exact ⟨rfl, EvR.of_no HF.out G9.out rfl⟩

set_option maxRecDepth 100000 in
set_option maxHeartbeats 8000000 in
theorem ev_i_3_noval (w : World) (rb B : Nat) (s said : List UInt8) (start rd n : Nat) (ws : Value) (x : Wd) (r : List Wd) (hs : s.length ≤ 1000000000000) (hst : start + said.length ≤ 1000000000001) (hsd : said.length ≤ 1048576) (hok : ∀ y ∈ x :: r, y.off + y.text.length ≤ said.length) (hT : Tabs w) (ho : rb ≠ 2 ∧ rb ≠ 0) (hB : B ≤ w.heap.size) (hP : LrAt w rb s start said ws rd) (hWs : WsAt w rb B ws n (x :: r)) (h1 : x.text = [105, 110, 118]) (t0 : List UInt8) (l0 : List Wd) (rd0 : Nat) (hn0 : nameM6 true said r = .ok (t0, l0, rd0)) (t1 : List UInt8) (l1 : List Wd) (rd1 : Nat) (hn1 : nameM6 false said l0 = .ok (t1, l1, rd1)) (t2 : List UInt8) (l2 : List Wd) (rd2 : Nat) (hn2 : nameM6 true said l1 = .ok (t2, l2, rd2)) (c : Int) (o : Nat) (hv : valM6 said rd2 = .error (c, o)) :
    Calls Tryz.prog 23 #[.pointer (some ⟨rb, 0, none⟩)] w fun e w' => EvR w rb s said start n (x :: r) e w' := by
  have HF := hide (show evM6 said n start (x :: r) = .error (c, o) by
    simp only [evM6]
    rw [if_pos (show x.text = invL from h1)]
    simp only [hn0, hn1, hn2, hv])
  have hq1 : (x.text == [105, 110, 118]) = true := by simpa using h1
  clear h1
  have hrb0 : rb < w.heap.size := (Array.getElem?_eq_some_iff.1 hP).1
  obtain ⟨W, hW⟩ : ∃ W, w.alloc (.cells (evCells zeE (.slice none 0 0)) 48) = W := ⟨_, rfl⟩
  have bW : Below w.heap.size w W := by rw [← hW]; exact alloc_v (Below.refl _ _) _
  have zW : W.heap.size = w.heap.size + 1 := by rw [← hW]; simp
  have eW : W.heap[w.heap.size]? = some (.cells (evCells zeE (.slice none 0 0)) 48 (0, 0)) := by rw [← hW]; exact World.alloc_heap_new w _
  have HW1 := hide (wordN_k W rb B s said start rd n ws x r (by omega) ((bW.block _ hrb0).trans hP) (hWs.kept fun k hk _ => bW.block k (by omega)))
  obtain ⟨po, hpo⟩ : ∃ po : Int, ((start + x.off : Nat) : Int) = po := ⟨_, rfl⟩
  have hadd : IntKind.i64.wrap ((x.off : Int) + (start : Int)) = po := by
    have := hok x (by simp)
    rw [IntKind.wrap_i64]
    omega
  have HPO := hide hpo
  clear hpo
  have HST := hide (fun (w1 V : World) (ws1 : Value) (p1 : LrAt w1 rb s start said ws1 (x.off + x.text.length)) (q1 : WsAt w1 rb B ws1 n r) (g1 : W.grownBy w1 (some rb)) (bV : Below w1.heap.size w1 V) (cs : List Value) (eV : V.heap[w1.heap.size + 1]? = some (.cells ⟨cs⟩ 48 (0, 0))) => ev_start w W w1 V rb B s said start n x r ws1 hs hst hsd hok hT ho hB hrb0 bW zW eW p1 q1 g1 bV cs eV)
  have HW2 : Hid (Calls Tryz.prog 44 #[.pointer (some ⟨rb, 0, none⟩)] W fun e w' => e = .returned (.agg #[.string (bsN x.text), .int .i64 x.off, .int .i64 n, .int .i64 x.col]) ∧ (∃ ws', LrAt w' rb s start said ws' (x.off + x.text.length) ∧ WsAt w' rb B ws' n r) ∧ W.grownBy w' (some rb)) := HW1
  have HOK := hide hok
  clear HW1 hP hWs hT ho hB hs hst hsd hok eW bW
  go_enter Tryz.func23, Tryz.ntmps23
  go_wp2_with (go_at_call 44; refine HW2.out.mono ?_; clear HW2; rintro e w1 ⟨rfl, ⟨ws1, p1, q1⟩, g1⟩; obtain ⟨V, hV⟩ : ∃ V, (w1.alloc (.cells #[.string (bsN x.text), .int .i64 x.off, .int .i64 n, .int .i64 x.col] 93)).alloc (.cells #[.int .i64 0, .string ⟨#[]⟩, .string ⟨#[]⟩, .string ⟨#[]⟩, .int .i64 0, .int .i64 0, .int .i64 0, .string ⟨#[]⟩, .slice none 0 0, .int .i64 x.off, .int .i64 n, .int .i64 x.col] 48) = V := ⟨_, rfl⟩; have bV : Below w1.heap.size w1 V := (by rw [← hV]; exact alloc_v (alloc_v (Below.refl _ _) _) _); have eD : V.heap[w1.heap.size]? = some (.cells #[.string (bsN x.text), .int .i64 x.off, .int .i64 n, .int .i64 x.col] 93 (0, 0)) := (by rw [← hV]; exact (Below.heap_alloc _ _ _ (by simp)).trans (World.alloc_heap_new w1 _)); have eV : V.heap[w1.heap.size + 1]? = some (.cells #[.int .i64 0, .string ⟨#[]⟩, .string ⟨#[]⟩, .string ⟨#[]⟩, .int .i64 0, .int .i64 0, .int .i64 0, .string ⟨#[]⟩, .slice none 0 0, .int .i64 x.off, .int .i64 n, .int .i64 x.col] 48 (0, 0)) := (by rw [← hV]; have := World.alloc_heap_new (w1.alloc (.cells #[.string (bsN x.text), .int .i64 x.off, .int .i64 n, .int .i64 x.col] 93)) (.cells #[.int .i64 0, .string ⟨#[]⟩, .string ⟨#[]⟩, .string ⟨#[]⟩, .int .i64 0, .int .i64 0, .int .i64 0, .string ⟨#[]⟩, .slice none 0 0, .int .i64 x.off, .int .i64 n, .int .i64 x.col] 48); rwa [World.size_alloc] at this); have S0 := hide (HST.out w1 V ws1 p1 q1 g1 bV _ eV); have c0 := World.alloc_heap_new w1 (.cells #[.string (bsN x.text), .int .i64 x.off, .int .i64 n, .int .i64 x.col] 93); have d0 := cells_at c0 0 _ rfl; have d1 := cells_at c0 1 _ rfl; have d2 := cells_at c0 2 _ rfl; have d3 := cells_at c0 3 _ rfl; have ED := hide (And.intro eD eV); have LT := hide (show rb < w1.heap.size from (Array.getElem?_eq_some_iff.1 p1).1); clear p1 q1 bV eD eV c0 HST; subst hV)
  generalize hV : (w1.alloc (.cells #[.string (bsN x.text), .int .i64 x.off, .int .i64 n, .int .i64 x.col] 93)).alloc (.cells #[.int .i64 0, .string ⟨#[]⟩, .string ⟨#[]⟩, .string ⟨#[]⟩, .int .i64 0, .int .i64 0, .int .i64 0, .string ⟨#[]⟩, .slice none 0 0, .int .i64 x.off, .int .i64 n, .int .i64 x.col] 48) = V at *
  have neD : w1.heap.size ≠ w1.heap.size + 1 := by omega
  generalize hEB : w1.heap.size + 1 = E at *
  have v1 := fun q : Wv V => q.cell (cells_at S0.out.rdr 1 _ rfl)
  have v9 := fun q : Wv V => q.cell (cells_at S0.out.ev 9 _ rfl)
  have hany := Wv.any V
  clear d0 d1 d2 d3
  refine wp_region_grown_tail 10 (by kernel_rfl) (by kernel_rfl) ?_
  simp only [List.take_succ_cons, List.take_zero, List.drop_succ_cons, List.drop_zero]
  repeat (go_big_quiet_step (fail))
  refine wpQuiet_nil ?_
  intro V1 hw'
  obtain ⟨q1, rfl⟩ := hw'
  clear v1 v9 hany
  have S1 : St6 w E rb B s said start n q1.val [.int .i64 0, .string ⟨#[]⟩, .string ⟨#[]⟩, .string ⟨#[]⟩, .int .i64 0, .int .i64 0, .int .i64 0, .string ⟨#[]⟩, .slice none 0 0, .int .i64 x.off, .int .i64 n, .int .i64 x.col] ws1 (x.off + x.text.length) r := S0.out.grow (grown_of_below q1.below) ((q1.below.block _ (Array.getElem?_eq_some_iff.1 S0.out.rdr).1).trans S0.out.rdr) (S0.out.wds.grown (Nat.le_trans S0.out.hB S0.out.gr.size) (grown_of_below q1.below)) S0.out.hrd (fun _ h => h)
  have z9 := frozen_at S1.ev 9
  have y9 := cells_at S1.ev 9 _ rfl
  have S2 := S1.set 9 (.int .i64 po)
  have eD1 := (Below.heap_setCell q1.val ⟨E, 9, none⟩ (.int .i64 po) w1.heap.size neD).trans ((q1.below.block _ (Array.getElem?_eq_some_iff.1 ED.out.1).1).trans ED.out.1)
  obtain ⟨V2, hV2⟩ : ∃ V2, q1.val.setCell ⟨E, 9, none⟩ (.int .i64 po) = V2 := ⟨_, rfl⟩
  rw [hV2] at S2 eD1
  simp only [List.set_cons_succ, List.set_cons_zero] at S2
  have d0 := cells_at eD1 0 _ rfl
  have d1 := cells_at eD1 1 _ rfl
  have k0 := cells_at S2.ev 0 _ rfl
  have kz0 := frozen_at S2.ev 0
  have S3 := S2.set 0 (.int .i64 1)
  simp only [List.set_cons_zero] at S3
  have HN0 := hide (S3.name true hn0)
  clear S1 S2 S0 S3
  go_wp2_with (first
    | (go_at_call 45; refine HN0.out.mono ?_; clear HN0; rintro e u0 ⟨rfl, ws5', T0⟩; have a1 := cells_at T0.ev 1 _ rfl; have az1 := frozen_at T0.ev 1; have R0 := T0.set 1 (.string (bsN t0)); simp only [List.set_cons_succ, List.set_cons_zero] at R0; have HN1 := hide (R0.name false hn1); clear T0 R0)
    | (go_at_call 45; refine HN1.out.mono ?_; clear HN1; rintro e u1 ⟨rfl, ws6', T1⟩; have a2 := cells_at T1.ev 2 _ rfl; have az2 := frozen_at T1.ev 2; have R1 := T1.set 2 (.string (bsN t1)); simp only [List.set_cons_succ, List.set_cons_zero] at R1; have HN2 := hide (R1.name true hn2); clear T1 R1)
    | (go_at_call 45; refine HN2.out.mono ?_; clear HN2; rintro e u2 ⟨rfl, ws7', T2⟩; have a3 := cells_at T2.ev 3 _ rfl; have az3 := frozen_at T2.ev 3; have R2 := T2.set 3 (.string (bsN t2)); simp only [List.set_cons_succ, List.set_cons_zero] at R2; have HV := hide (R2.noValue hv); clear T2 R2)
    | (go_at_call 47; refine HV.out.mono ?_; clear HV; rintro e u9 ⟨rfl, g9⟩; have G9 := hide g9; clear g9))
  exact ⟨rfl, EvR.of_no HF.out G9.out rfl⟩

set_option maxRecDepth 100000 in
set_option maxHeartbeats 8000000 in
theorem ev_i_3_val (w : World) (rb B : Nat) (s said : List UInt8) (start rd n : Nat) (ws : Value) (x : Wd) (r : List Wd) (hs : s.length ≤ 1000000000000) (hst : start + said.length ≤ 1000000000001) (hsd : said.length ≤ 1048576) (hok : ∀ y ∈ x :: r, y.off + y.text.length ≤ said.length) (hT : Tabs w) (ho : rb ≠ 2 ∧ rb ≠ 0) (hB : B ≤ w.heap.size) (hP : LrAt w rb s start said ws rd) (hWs : WsAt w rb B ws n (x :: r)) (h1 : x.text = [105, 110, 118]) (t0 : List UInt8) (l0 : List Wd) (rd0 : Nat) (hn0 : nameM6 true said r = .ok (t0, l0, rd0)) (t1 : List UInt8) (l1 : List Wd) (rd1 : Nat) (hn1 : nameM6 false said l0 = .ok (t1, l1, rd1)) (t2 : List UInt8) (l2 : List Wd) (rd2 : Nat) (hn2 : nameM6 true said l1 = .ok (t2, l2, rd2)) (v : Vl) (hv : valM6 said rd2 = .ok v) :
    Calls Tryz.prog 23 #[.pointer (some ⟨rb, 0, none⟩)] w fun e w' => EvR w rb s said start n (x :: r) e w' := by
  have HF := hide (show evM6 said n start (x :: r) = .ok ⟨1, t0, t1, t2, v, ((start + x.off : Nat) : Int), (n : Int), (x.col : Int)⟩ by
    simp only [evM6]
    rw [if_pos (show x.text = invL from h1)]
    simp only [hn0, hn1, hn2, hv])
  have hq1 : (x.text == [105, 110, 118]) = true := by simpa using h1
  clear h1
  have hrb0 : rb < w.heap.size := (Array.getElem?_eq_some_iff.1 hP).1
  obtain ⟨W, hW⟩ : ∃ W, w.alloc (.cells (evCells zeE (.slice none 0 0)) 48) = W := ⟨_, rfl⟩
  have bW : Below w.heap.size w W := by rw [← hW]; exact alloc_v (Below.refl _ _) _
  have zW : W.heap.size = w.heap.size + 1 := by rw [← hW]; simp
  have eW : W.heap[w.heap.size]? = some (.cells (evCells zeE (.slice none 0 0)) 48 (0, 0)) := by rw [← hW]; exact World.alloc_heap_new w _
  have HW1 := hide (wordN_k W rb B s said start rd n ws x r (by omega) ((bW.block _ hrb0).trans hP) (hWs.kept fun k hk _ => bW.block k (by omega)))
  obtain ⟨po, hpo⟩ : ∃ po : Int, ((start + x.off : Nat) : Int) = po := ⟨_, rfl⟩
  have hadd : IntKind.i64.wrap ((x.off : Int) + (start : Int)) = po := by
    have := hok x (by simp)
    rw [IntKind.wrap_i64]
    omega
  have HPO := hide hpo
  clear hpo
  have HST := hide (fun (w1 V : World) (ws1 : Value) (p1 : LrAt w1 rb s start said ws1 (x.off + x.text.length)) (q1 : WsAt w1 rb B ws1 n r) (g1 : W.grownBy w1 (some rb)) (bV : Below w1.heap.size w1 V) (cs : List Value) (eV : V.heap[w1.heap.size + 1]? = some (.cells ⟨cs⟩ 48 (0, 0))) => ev_start w W w1 V rb B s said start n x r ws1 hs hst hsd hok hT ho hB hrb0 bW zW eW p1 q1 g1 bV cs eV)
  have HW2 : Hid (Calls Tryz.prog 44 #[.pointer (some ⟨rb, 0, none⟩)] W fun e w' => e = .returned (.agg #[.string (bsN x.text), .int .i64 x.off, .int .i64 n, .int .i64 x.col]) ∧ (∃ ws', LrAt w' rb s start said ws' (x.off + x.text.length) ∧ WsAt w' rb B ws' n r) ∧ W.grownBy w' (some rb)) := HW1
  have HOK := hide hok
  clear HW1 hP hWs hT ho hB hs hst hsd hok eW bW
  go_enter Tryz.func23, Tryz.ntmps23
  go_wp2_with (go_at_call 44; refine HW2.out.mono ?_; clear HW2; rintro e w1 ⟨rfl, ⟨ws1, p1, q1⟩, g1⟩; obtain ⟨V, hV⟩ : ∃ V, (w1.alloc (.cells #[.string (bsN x.text), .int .i64 x.off, .int .i64 n, .int .i64 x.col] 93)).alloc (.cells #[.int .i64 0, .string ⟨#[]⟩, .string ⟨#[]⟩, .string ⟨#[]⟩, .int .i64 0, .int .i64 0, .int .i64 0, .string ⟨#[]⟩, .slice none 0 0, .int .i64 x.off, .int .i64 n, .int .i64 x.col] 48) = V := ⟨_, rfl⟩; have bV : Below w1.heap.size w1 V := (by rw [← hV]; exact alloc_v (alloc_v (Below.refl _ _) _) _); have eD : V.heap[w1.heap.size]? = some (.cells #[.string (bsN x.text), .int .i64 x.off, .int .i64 n, .int .i64 x.col] 93 (0, 0)) := (by rw [← hV]; exact (Below.heap_alloc _ _ _ (by simp)).trans (World.alloc_heap_new w1 _)); have eV : V.heap[w1.heap.size + 1]? = some (.cells #[.int .i64 0, .string ⟨#[]⟩, .string ⟨#[]⟩, .string ⟨#[]⟩, .int .i64 0, .int .i64 0, .int .i64 0, .string ⟨#[]⟩, .slice none 0 0, .int .i64 x.off, .int .i64 n, .int .i64 x.col] 48 (0, 0)) := (by rw [← hV]; have := World.alloc_heap_new (w1.alloc (.cells #[.string (bsN x.text), .int .i64 x.off, .int .i64 n, .int .i64 x.col] 93)) (.cells #[.int .i64 0, .string ⟨#[]⟩, .string ⟨#[]⟩, .string ⟨#[]⟩, .int .i64 0, .int .i64 0, .int .i64 0, .string ⟨#[]⟩, .slice none 0 0, .int .i64 x.off, .int .i64 n, .int .i64 x.col] 48); rwa [World.size_alloc] at this); have S0 := hide (HST.out w1 V ws1 p1 q1 g1 bV _ eV); have c0 := World.alloc_heap_new w1 (.cells #[.string (bsN x.text), .int .i64 x.off, .int .i64 n, .int .i64 x.col] 93); have d0 := cells_at c0 0 _ rfl; have d1 := cells_at c0 1 _ rfl; have d2 := cells_at c0 2 _ rfl; have d3 := cells_at c0 3 _ rfl; have ED := hide (And.intro eD eV); have LT := hide (show rb < w1.heap.size from (Array.getElem?_eq_some_iff.1 p1).1); clear p1 q1 bV eD eV c0 HST; subst hV)
  generalize hV : (w1.alloc (.cells #[.string (bsN x.text), .int .i64 x.off, .int .i64 n, .int .i64 x.col] 93)).alloc (.cells #[.int .i64 0, .string ⟨#[]⟩, .string ⟨#[]⟩, .string ⟨#[]⟩, .int .i64 0, .int .i64 0, .int .i64 0, .string ⟨#[]⟩, .slice none 0 0, .int .i64 x.off, .int .i64 n, .int .i64 x.col] 48) = V at *
  have neD : w1.heap.size ≠ w1.heap.size + 1 := by omega
  generalize hEB : w1.heap.size + 1 = E at *
  have v1 := fun q : Wv V => q.cell (cells_at S0.out.rdr 1 _ rfl)
  have v9 := fun q : Wv V => q.cell (cells_at S0.out.ev 9 _ rfl)
  have hany := Wv.any V
  clear d0 d1 d2 d3
  refine wp_region_grown_tail 10 (by kernel_rfl) (by kernel_rfl) ?_
  simp only [List.take_succ_cons, List.take_zero, List.drop_succ_cons, List.drop_zero]
  repeat (go_big_quiet_step (fail))
  refine wpQuiet_nil ?_
  intro V1 hw'
  obtain ⟨q1, rfl⟩ := hw'
  clear v1 v9 hany
  have S1 : St6 w E rb B s said start n q1.val [.int .i64 0, .string ⟨#[]⟩, .string ⟨#[]⟩, .string ⟨#[]⟩, .int .i64 0, .int .i64 0, .int .i64 0, .string ⟨#[]⟩, .slice none 0 0, .int .i64 x.off, .int .i64 n, .int .i64 x.col] ws1 (x.off + x.text.length) r := S0.out.grow (grown_of_below q1.below) ((q1.below.block _ (Array.getElem?_eq_some_iff.1 S0.out.rdr).1).trans S0.out.rdr) (S0.out.wds.grown (Nat.le_trans S0.out.hB S0.out.gr.size) (grown_of_below q1.below)) S0.out.hrd (fun _ h => h)
  have z9 := frozen_at S1.ev 9
  have y9 := cells_at S1.ev 9 _ rfl
  have S2 := S1.set 9 (.int .i64 po)
  have eD1 := (Below.heap_setCell q1.val ⟨E, 9, none⟩ (.int .i64 po) w1.heap.size neD).trans ((q1.below.block _ (Array.getElem?_eq_some_iff.1 ED.out.1).1).trans ED.out.1)
  obtain ⟨V2, hV2⟩ : ∃ V2, q1.val.setCell ⟨E, 9, none⟩ (.int .i64 po) = V2 := ⟨_, rfl⟩
  rw [hV2] at S2 eD1
  simp only [List.set_cons_succ, List.set_cons_zero] at S2
  have d0 := cells_at eD1 0 _ rfl
  have d1 := cells_at eD1 1 _ rfl
  have k0 := cells_at S2.ev 0 _ rfl
  have kz0 := frozen_at S2.ev 0
  have S3 := S2.set 0 (.int .i64 1)
  simp only [List.set_cons_zero] at S3
  have HN0 := hide (S3.name true hn0)
  obtain ⟨vk, vi, vm, vt, vl⟩ := v
  clear S1 S2 S0 S3
  go_wp2_with (first
    | (go_at_call 45; refine HN0.out.mono ?_; clear HN0; rintro e u0 ⟨rfl, ws5', T0⟩; have a1 := cells_at T0.ev 1 _ rfl; have az1 := frozen_at T0.ev 1; have R0 := T0.set 1 (.string (bsN t0)); simp only [List.set_cons_succ, List.set_cons_zero] at R0; have HN1 := hide (R0.name false hn1); clear T0 R0)
    | (go_at_call 45; refine HN1.out.mono ?_; clear HN1; rintro e u1 ⟨rfl, ws6', T1⟩; have a2 := cells_at T1.ev 2 _ rfl; have az2 := frozen_at T1.ev 2; have R1 := T1.set 2 (.string (bsN t1)); simp only [List.set_cons_succ, List.set_cons_zero] at R1; have HN2 := hide (R1.name true hn2); clear T1 R1)
    | (go_at_call 45; refine HN2.out.mono ?_; clear HN2; rintro e u2 ⟨rfl, ws7', T2⟩; have a3 := cells_at T2.ev 3 _ rfl; have az3 := frozen_at T2.ev 3; have R2 := T2.set 3 (.string (bsN t2)); simp only [List.set_cons_succ, List.set_cons_zero] at R2; have HV := hide (R2.value hv); have LE := hide (Array.getElem?_eq_some_iff.1 R2.ev).1; have LG := hide R2.gr.size; clear T2 R2)
    | (go_at_call 47; refine HV.out.mono ?_; clear HV; rintro e u8 ⟨⟨s', rfl, i8⟩, b8, T8⟩; obtain ⟨sa, sc, rfl, _⟩ := i8.len; have a4 := cells_at T8.ev 4 _ rfl; have az4 := frozen_at T8.ev 4; have a5 := cells_at T8.ev 5 _ rfl; have az5 := frozen_at T8.ev 5; have a6 := cells_at T8.ev 6 _ rfl; have az6 := frozen_at T8.ev 6; have a7 := cells_at T8.ev 7 _ rfl; have az7 := frozen_at T8.ev 7; have a8 := cells_at T8.ev 8 _ rfl; have az8 := frozen_at T8.ev 8; have Q0 := T8.set 4 (.int .i64 vk); have Q1 := Q0.set 5 (.int .i64 vi); have Q2 := Q1.set 6 (.int .i64 vm); have Q3 := Q2.set 7 (.string vt); have Q4 := Q3.set 8 (.slice sa vl.length sc); simp only [List.set_cons_succ, List.set_cons_zero] at Q4; obtain ⟨Y, hY⟩ : ∃ Y, (((((u8.setCell ⟨E, 4, none⟩ (.int .i64 vk)).setCell ⟨E, 5, none⟩ (.int .i64 vi)).setCell ⟨E, 6, none⟩ (.int .i64 vm)).setCell ⟨E, 7, none⟩ (.string vt)).setCell ⟨E, 8, none⟩ (.slice sa vl.length sc)) = Y := ⟨_, rfl⟩; rw [hY] at Q4; have y0 := cells_at Q4.ev 0 _ rfl; have y1 := cells_at Q4.ev 1 _ rfl; have y2 := cells_at Q4.ev 2 _ rfl; have y3 := cells_at Q4.ev 3 _ rfl; have y4 := cells_at Q4.ev 4 _ rfl; have y5 := cells_at Q4.ev 5 _ rfl; have y6 := cells_at Q4.ev 6 _ rfl; have y7 := cells_at Q4.ev 7 _ rfl; have y8 := cells_at Q4.ev 8 _ rfl; have y9 := cells_at Q4.ev 9 _ rfl; have y10 := cells_at Q4.ev 10 _ rfl; have y11 := cells_at Q4.ev 11 _ rfl; have r0 := cells_at Q4.res 0 _ rfl; have rz0 := frozen_at Q4.res 0; have r1 := cells_at Q4.res 1 _ rfl; have rz1 := frozen_at Q4.res 1; have r2 := cells_at Q4.res 2 _ rfl; have rz2 := frozen_at Q4.res 2; have r3 := cells_at Q4.res 3 _ rfl; have rz3 := frozen_at Q4.res 3; have r4 := cells_at Q4.res 4 _ rfl; have rz4 := frozen_at Q4.res 4; have r5 := cells_at Q4.res 5 _ rfl; have rz5 := frozen_at Q4.res 5; have r6 := cells_at Q4.res 6 _ rfl; have rz6 := frozen_at Q4.res 6; have r7 := cells_at Q4.res 7 _ rfl; have rz7 := frozen_at Q4.res 7; have r8 := cells_at Q4.res 8 _ rfl; have rz8 := frozen_at Q4.res 8; have r9 := cells_at Q4.res 9 _ rfl; have rz9 := frozen_at Q4.res 9; have r10 := cells_at Q4.res 10 _ rfl; have rz10 := frozen_at Q4.res 10; have r11 := cells_at Q4.res 11 _ rfl; have rz11 := frozen_at Q4.res 11; have QQ := hide (And.intro Q4 (And.intro i8 (And.intro b8 hY))); clear T8 i8 b8 Q0 Q1 Q2 Q3 Q4))
  have HPO2 := HPO.out
  subst HPO2
  obtain ⟨e1, e2, e3, e4⟩ := ev_end w Y _ E rb B s said start n _ _ _ _ QQ.out.1 ⟨1, t0, t1, t2, ⟨vk, vi, vm, vt, vl⟩, ((start + x.off : Nat) : Int), (n : Int), (x.col : Int)⟩ (.slice sa vl.length sc) rfl
  refine bodyPost_ret (results_cell_row rfl _ _ w.heap.size _ _ _ _ rfl e1 Tryz.underlying48 rfl infoEv12) rfl ?_
  refine EvR.of_ok HF.out e2 _ rfl (QQ.out.2.1.kept (fun b o hb => ?_) (fun b hb => ?_))
  · obtain ⟨hb1, hb2⟩ := hb
    have hE := LE.out
    have hG := LG.out
    have hW := QQ.out.1.hE
    have nE : b ≠ E := by omega
    refine World.cell?_of_block ((e3 b (by omega)).trans ?_)
    rw [← QQ.out.2.2.2, Below.heap_setCell _ _ _ _ nE, Below.heap_setCell _ _ _ _ nE, Below.heap_setCell _ _ _ _ nE, Below.heap_setCell _ _ _ _ nE, Below.heap_setCell _ _ _ _ nE]
  · obtain ⟨hb1, hb2⟩ := hb
    have hG := LG.out
    have h5 : Y.heap.size = u8.heap.size := by rw [← QQ.out.2.2.2]; simp [World.setCell]
    exact ⟨by omega, Nat.lt_of_lt_of_eq (by omega) e4.symm⟩

set_option maxRecDepth 100000 in
set_option maxHeartbeats 8000000 in
theorem ev_r_0_name (w : World) (rb B : Nat) (s said : List UInt8) (start rd n : Nat) (ws : Value) (x : Wd) (r : List Wd) (hs : s.length ≤ 1000000000000) (hst : start + said.length ≤ 1000000000001) (hsd : said.length ≤ 1048576) (hok : ∀ y ∈ x :: r, y.off + y.text.length ≤ said.length) (hT : Tabs w) (ho : rb ≠ 2 ∧ rb ≠ 0) (hB : B ≤ w.heap.size) (hP : LrAt w rb s start said ws rd) (hWs : WsAt w rb B ws n (x :: r)) (h0 : ¬ x.text = [105, 110, 118]) (h1 : x.text = [114, 101, 115]) (c : Int) (o : Nat) (hn : nameM6 true said r = .error (c, o)) :
    Calls Tryz.prog 23 #[.pointer (some ⟨rb, 0, none⟩)] w fun e w' => EvR w rb s said start n (x :: r) e w' := by
  have HF := hide (show evM6 said n start (x :: r) = .error (c, o) by
    simp only [evM6]
    rw [if_neg (show ¬ x.text = invL from h0), if_pos (show x.text = resL from h1)]
    simp only [hn])
  have hq1 : (x.text == [105, 110, 118]) = false := by simpa using h0
  have hq2 : (x.text == [114, 101, 115]) = true := by simpa using h1
  clear h0 h1
  have hrb0 : rb < w.heap.size := (Array.getElem?_eq_some_iff.1 hP).1
  obtain ⟨W, hW⟩ : ∃ W, w.alloc (.cells (evCells zeE (.slice none 0 0)) 48) = W := ⟨_, rfl⟩
  have bW : Below w.heap.size w W := by rw [← hW]; exact alloc_v (Below.refl _ _) _
  have zW : W.heap.size = w.heap.size + 1 := by rw [← hW]; simp
  have eW : W.heap[w.heap.size]? = some (.cells (evCells zeE (.slice none 0 0)) 48 (0, 0)) := by rw [← hW]; exact World.alloc_heap_new w _
  have HW1 := hide (wordN_k W rb B s said start rd n ws x r (by omega) ((bW.block _ hrb0).trans hP) (hWs.kept fun k hk _ => bW.block k (by omega)))
  obtain ⟨po, hpo⟩ : ∃ po : Int, ((start + x.off : Nat) : Int) = po := ⟨_, rfl⟩
  have hadd : IntKind.i64.wrap ((x.off : Int) + (start : Int)) = po := by
    have := hok x (by simp)
    rw [IntKind.wrap_i64]
    omega
  have HPO := hide hpo
  clear hpo
  have HST := hide (fun (w1 V : World) (ws1 : Value) (p1 : LrAt w1 rb s start said ws1 (x.off + x.text.length)) (q1 : WsAt w1 rb B ws1 n r) (g1 : W.grownBy w1 (some rb)) (bV : Below w1.heap.size w1 V) (cs : List Value) (eV : V.heap[w1.heap.size + 1]? = some (.cells ⟨cs⟩ 48 (0, 0))) => ev_start w W w1 V rb B s said start n x r ws1 hs hst hsd hok hT ho hB hrb0 bW zW eW p1 q1 g1 bV cs eV)
  have HW2 : Hid (Calls Tryz.prog 44 #[.pointer (some ⟨rb, 0, none⟩)] W fun e w' => e = .returned (.agg #[.string (bsN x.text), .int .i64 x.off, .int .i64 n, .int .i64 x.col]) ∧ (∃ ws', LrAt w' rb s start said ws' (x.off + x.text.length) ∧ WsAt w' rb B ws' n r) ∧ W.grownBy w' (some rb)) := HW1
  have HOK := hide hok
  clear HW1 hP hWs hT ho hB hs hst hsd hok eW bW
  go_enter Tryz.func23, Tryz.ntmps23
  go_wp2_with (go_at_call 44; refine HW2.out.mono ?_; clear HW2; rintro e w1 ⟨rfl, ⟨ws1, p1, q1⟩, g1⟩; obtain ⟨V, hV⟩ : ∃ V, (w1.alloc (.cells #[.string (bsN x.text), .int .i64 x.off, .int .i64 n, .int .i64 x.col] 93)).alloc (.cells #[.int .i64 0, .string ⟨#[]⟩, .string ⟨#[]⟩, .string ⟨#[]⟩, .int .i64 0, .int .i64 0, .int .i64 0, .string ⟨#[]⟩, .slice none 0 0, .int .i64 x.off, .int .i64 n, .int .i64 x.col] 48) = V := ⟨_, rfl⟩; have bV : Below w1.heap.size w1 V := (by rw [← hV]; exact alloc_v (alloc_v (Below.refl _ _) _) _); have eD : V.heap[w1.heap.size]? = some (.cells #[.string (bsN x.text), .int .i64 x.off, .int .i64 n, .int .i64 x.col] 93 (0, 0)) := (by rw [← hV]; exact (Below.heap_alloc _ _ _ (by simp)).trans (World.alloc_heap_new w1 _)); have eV : V.heap[w1.heap.size + 1]? = some (.cells #[.int .i64 0, .string ⟨#[]⟩, .string ⟨#[]⟩, .string ⟨#[]⟩, .int .i64 0, .int .i64 0, .int .i64 0, .string ⟨#[]⟩, .slice none 0 0, .int .i64 x.off, .int .i64 n, .int .i64 x.col] 48 (0, 0)) := (by rw [← hV]; have := World.alloc_heap_new (w1.alloc (.cells #[.string (bsN x.text), .int .i64 x.off, .int .i64 n, .int .i64 x.col] 93)) (.cells #[.int .i64 0, .string ⟨#[]⟩, .string ⟨#[]⟩, .string ⟨#[]⟩, .int .i64 0, .int .i64 0, .int .i64 0, .string ⟨#[]⟩, .slice none 0 0, .int .i64 x.off, .int .i64 n, .int .i64 x.col] 48); rwa [World.size_alloc] at this); have S0 := hide (HST.out w1 V ws1 p1 q1 g1 bV _ eV); have c0 := World.alloc_heap_new w1 (.cells #[.string (bsN x.text), .int .i64 x.off, .int .i64 n, .int .i64 x.col] 93); have d0 := cells_at c0 0 _ rfl; have d1 := cells_at c0 1 _ rfl; have d2 := cells_at c0 2 _ rfl; have d3 := cells_at c0 3 _ rfl; have ED := hide (And.intro eD eV); have LT := hide (show rb < w1.heap.size from (Array.getElem?_eq_some_iff.1 p1).1); clear p1 q1 bV eD eV c0 HST; subst hV)
  generalize hV : (w1.alloc (.cells #[.string (bsN x.text), .int .i64 x.off, .int .i64 n, .int .i64 x.col] 93)).alloc (.cells #[.int .i64 0, .string ⟨#[]⟩, .string ⟨#[]⟩, .string ⟨#[]⟩, .int .i64 0, .int .i64 0, .int .i64 0, .string ⟨#[]⟩, .slice none 0 0, .int .i64 x.off, .int .i64 n, .int .i64 x.col] 48) = V at *
  have neD : w1.heap.size ≠ w1.heap.size + 1 := by omega
  generalize hEB : w1.heap.size + 1 = E at *
  have v1 := fun q : Wv V => q.cell (cells_at S0.out.rdr 1 _ rfl)
  have v9 := fun q : Wv V => q.cell (cells_at S0.out.ev 9 _ rfl)
  have hany := Wv.any V
  clear d0 d1 d2 d3
  refine wp_region_grown_tail 10 (by kernel_rfl) (by kernel_rfl) ?_
  simp only [List.take_succ_cons, List.take_zero, List.drop_succ_cons, List.drop_zero]
  repeat (go_big_quiet_step (fail))
  refine wpQuiet_nil ?_
  intro V1 hw'
  obtain ⟨q1, rfl⟩ := hw'
  clear v1 v9 hany
  have S1 : St6 w E rb B s said start n q1.val [.int .i64 0, .string ⟨#[]⟩, .string ⟨#[]⟩, .string ⟨#[]⟩, .int .i64 0, .int .i64 0, .int .i64 0, .string ⟨#[]⟩, .slice none 0 0, .int .i64 x.off, .int .i64 n, .int .i64 x.col] ws1 (x.off + x.text.length) r := S0.out.grow (grown_of_below q1.below) ((q1.below.block _ (Array.getElem?_eq_some_iff.1 S0.out.rdr).1).trans S0.out.rdr) (S0.out.wds.grown (Nat.le_trans S0.out.hB S0.out.gr.size) (grown_of_below q1.below)) S0.out.hrd (fun _ h => h)
  have z9 := frozen_at S1.ev 9
  have y9 := cells_at S1.ev 9 _ rfl
  have S2 := S1.set 9 (.int .i64 po)
  have eD1 := (Below.heap_setCell q1.val ⟨E, 9, none⟩ (.int .i64 po) w1.heap.size neD).trans ((q1.below.block _ (Array.getElem?_eq_some_iff.1 ED.out.1).1).trans ED.out.1)
  obtain ⟨V2, hV2⟩ : ∃ V2, q1.val.setCell ⟨E, 9, none⟩ (.int .i64 po) = V2 := ⟨_, rfl⟩
  rw [hV2] at S2 eD1
  simp only [List.set_cons_succ, List.set_cons_zero] at S2
  have d0 := cells_at eD1 0 _ rfl
  have d1 := cells_at eD1 1 _ rfl
  have k0 := cells_at S2.ev 0 _ rfl
  have kz0 := frozen_at S2.ev 0
  have S3 := S2.set 0 (.int .i64 2)
  simp only [List.set_cons_zero] at S3
  have HN0 := hide (S3.noName true hn)
  clear S1 S2 S0 S3
  go_wp2_with (first
    | (go_at_call 45; refine HN0.out.mono ?_; clear HN0; rintro e u9 ⟨rfl, g9⟩; have G9 := hide g9; clear g9))
  exact ⟨rfl, EvR.of_no HF.out G9.out rfl⟩

set_option maxRecDepth 100000 in
set_option maxHeartbeats 8000000 in
theorem ev_r_1_noval (w : World) (rb B : Nat) (s said : List UInt8) (start rd n : Nat) (ws : Value) (x : Wd) (r : List Wd) (hs : s.length ≤ 1000000000000) (hst : start + said.length ≤ 1000000000001) (hsd : said.length ≤ 1048576) (hok : ∀ y ∈ x :: r, y.off + y.text.length ≤ said.length) (hT : Tabs w) (ho : rb ≠ 2 ∧ rb ≠ 0) (hB : B ≤ w.heap.size) (hP : LrAt w rb s start said ws rd) (hWs : WsAt w rb B ws n (x :: r)) (h0 : ¬ x.text = [105, 110, 118]) (h1 : x.text = [114, 101, 115]) (t0 : List UInt8) (l0 : List Wd) (rd0 : Nat) (hn0 : nameM6 true said r = .ok (t0, l0, rd0)) (c : Int) (o : Nat) (hv : valM6 said rd0 = .error (c, o)) :
    Calls Tryz.prog 23 #[.pointer (some ⟨rb, 0, none⟩)] w fun e w' => EvR w rb s said start n (x :: r) e w' := by
  have HF := hide (show evM6 said n start (x :: r) = .error (c, o) by
    simp only [evM6]
    rw [if_neg (show ¬ x.text = invL from h0), if_pos (show x.text = resL from h1)]
    simp only [hn0, hv])
  have hq1 : (x.text == [105, 110, 118]) = false := by simpa using h0
  have hq2 : (x.text == [114, 101, 115]) = true := by simpa using h1
  clear h0 h1
  have hrb0 : rb < w.heap.size := (Array.getElem?_eq_some_iff.1 hP).1
  obtain ⟨W, hW⟩ : ∃ W, w.alloc (.cells (evCells zeE (.slice none 0 0)) 48) = W := ⟨_, rfl⟩
  have bW : Below w.heap.size w W := by rw [← hW]; exact alloc_v (Below.refl _ _) _
  have zW : W.heap.size = w.heap.size + 1 := by rw [← hW]; simp
  have eW : W.heap[w.heap.size]? = some (.cells (evCells zeE (.slice none 0 0)) 48 (0, 0)) := by rw [← hW]; exact World.alloc_heap_new w _
  have HW1 := hide (wordN_k W rb B s said start rd n ws x r (by omega) ((bW.block _ hrb0).trans hP) (hWs.kept fun k hk _ => bW.block k (by omega)))
  obtain ⟨po, hpo⟩ : ∃ po : Int, ((start + x.off : Nat) : Int) = po := ⟨_, rfl⟩
  have hadd : IntKind.i64.wrap ((x.off : Int) + (start : Int)) = po := by
    have := hok x (by simp)
    rw [IntKind.wrap_i64]
    omega
  have HPO := hide hpo
  clear hpo
  have HST := hide (fun (w1 V : World) (ws1 : Value) (p1 : LrAt w1 rb s start said ws1 (x.off + x.text.length)) (q1 : WsAt w1 rb B ws1 n r) (g1 : W.grownBy w1 (some rb)) (bV : Below w1.heap.size w1 V) (cs : List Value) (eV : V.heap[w1.heap.size + 1]? = some (.cells ⟨cs⟩ 48 (0, 0))) => ev_start w W w1 V rb B s said start n x r ws1 hs hst hsd hok hT ho hB hrb0 bW zW eW p1 q1 g1 bV cs eV)
  have HW2 : Hid (Calls Tryz.prog 44 #[.pointer (some ⟨rb, 0, none⟩)] W fun e w' => e = .returned (.agg #[.string (bsN x.text), .int .i64 x.off, .int .i64 n, .int .i64 x.col]) ∧ (∃ ws', LrAt w' rb s start said ws' (x.off + x.text.length) ∧ WsAt w' rb B ws' n r) ∧ W.grownBy w' (some rb)) := HW1
  have HOK := hide hok
  clear HW1 hP hWs hT ho hB hs hst hsd hok eW bW
  go_enter Tryz.func23, Tryz.ntmps23
  go_wp2_with (go_at_call 44; refine HW2.out.mono ?_; clear HW2; rintro e w1 ⟨rfl, ⟨ws1, p1, q1⟩, g1⟩; obtain ⟨V, hV⟩ : ∃ V, (w1.alloc (.cells #[.string (bsN x.text), .int .i64 x.off, .int .i64 n, .int .i64 x.col] 93)).alloc (.cells #[.int .i64 0, .string ⟨#[]⟩, .string ⟨#[]⟩, .string ⟨#[]⟩, .int .i64 0, .int .i64 0, .int .i64 0, .string ⟨#[]⟩, .slice none 0 0, .int .i64 x.off, .int .i64 n, .int .i64 x.col] 48) = V := ⟨_, rfl⟩; have bV : Below w1.heap.size w1 V := (by rw [← hV]; exact alloc_v (alloc_v (Below.refl _ _) _) _); have eD : V.heap[w1.heap.size]? = some (.cells #[.string (bsN x.text), .int .i64 x.off, .int .i64 n, .int .i64 x.col] 93 (0, 0)) := (by rw [← hV]; exact (Below.heap_alloc _ _ _ (by simp)).trans (World.alloc_heap_new w1 _)); have eV : V.heap[w1.heap.size + 1]? = some (.cells #[.int .i64 0, .string ⟨#[]⟩, .string ⟨#[]⟩, .string ⟨#[]⟩, .int .i64 0, .int .i64 0, .int .i64 0, .string ⟨#[]⟩, .slice none 0 0, .int .i64 x.off, .int .i64 n, .int .i64 x.col] 48 (0, 0)) := (by rw [← hV]; have := World.alloc_heap_new (w1.alloc (.cells #[.string (bsN x.text), .int .i64 x.off, .int .i64 n, .int .i64 x.col] 93)) (.cells #[.int .i64 0, .string ⟨#[]⟩, .string ⟨#[]⟩, .string ⟨#[]⟩, .int .i64 0, .int .i64 0, .int .i64 0, .string ⟨#[]⟩, .slice none 0 0, .int .i64 x.off, .int .i64 n, .int .i64 x.col] 48); rwa [World.size_alloc] at this); have S0 := hide (HST.out w1 V ws1 p1 q1 g1 bV _ eV); have c0 := World.alloc_heap_new w1 (.cells #[.string (bsN x.text), .int .i64 x.off, .int .i64 n, .int .i64 x.col] 93); have d0 := cells_at c0 0 _ rfl; have d1 := cells_at c0 1 _ rfl; have d2 := cells_at c0 2 _ rfl; have d3 := cells_at c0 3 _ rfl; have ED := hide (And.intro eD eV); have LT := hide (show rb < w1.heap.size from (Array.getElem?_eq_some_iff.1 p1).1); clear p1 q1 bV eD eV c0 HST; subst hV)
  generalize hV : (w1.alloc (.cells #[.string (bsN x.text), .int .i64 x.off, .int .i64 n, .int .i64 x.col] 93)).alloc (.cells #[.int .i64 0, .string ⟨#[]⟩, .string ⟨#[]⟩, .string ⟨#[]⟩, .int .i64 0, .int .i64 0, .int .i64 0, .string ⟨#[]⟩, .slice none 0 0, .int .i64 x.off, .int .i64 n, .int .i64 x.col] 48) = V at *
  have neD : w1.heap.size ≠ w1.heap.size + 1 := by omega
  generalize hEB : w1.heap.size + 1 = E at *
  have v1 := fun q : Wv V => q.cell (cells_at S0.out.rdr 1 _ rfl)
  have v9 := fun q : Wv V => q.cell (cells_at S0.out.ev 9 _ rfl)
  have hany := Wv.any V
  clear d0 d1 d2 d3
  refine wp_region_grown_tail 10 (by kernel_rfl) (by kernel_rfl) ?_
  simp only [List.take_succ_cons, List.take_zero, List.drop_succ_cons, List.drop_zero]
  repeat (go_big_quiet_step (fail))
  refine wpQuiet_nil ?_
  intro V1 hw'
  obtain ⟨q1, rfl⟩ := hw'
  clear v1 v9 hany
  have S1 : St6 w E rb B s said start n q1.val [.int .i64 0, .string ⟨#[]⟩, .string ⟨#[]⟩, .string ⟨#[]⟩, .int .i64 0, .int .i64 0, .int .i64 0, .string ⟨#[]⟩, .slice none 0 0, .int .i64 x.off, .int .i64 n, .int .i64 x.col] ws1 (x.off + x.text.length) r := S0.out.grow (grown_of_below q1.below) ((q1.below.block _ (Array.getElem?_eq_some_iff.1 S0.out.rdr).1).trans S0.out.rdr) (S0.out.wds.grown (Nat.le_trans S0.out.hB S0.out.gr.size) (grown_of_below q1.below)) S0.out.hrd (fun _ h => h)
  have z9 := frozen_at S1.ev 9
  have y9 := cells_at S1.ev 9 _ rfl
  have S2 := S1.set 9 (.int .i64 po)
  have eD1 := (Below.heap_setCell q1.val ⟨E, 9, none⟩ (.int .i64 po) w1.heap.size neD).trans ((q1.below.block _ (Array.getElem?_eq_some_iff.1 ED.out.1).1).trans ED.out.1)
  obtain ⟨V2, hV2⟩ : ∃ V2, q1.val.setCell ⟨E, 9, none⟩ (.int .i64 po) = V2 := ⟨_, rfl⟩
  rw [hV2] at S2 eD1
  simp only [List.set_cons_succ, List.set_cons_zero] at S2
  have d0 := cells_at eD1 0 _ rfl
  have d1 := cells_at eD1 1 _ rfl
  have k0 := cells_at S2.ev 0 _ rfl
  have kz0 := frozen_at S2.ev 0
  have S3 := S2.set 0 (.int .i64 2)
  simp only [List.set_cons_zero] at S3
  have HN0 := hide (S3.name true hn0)
  clear S1 S2 S0 S3
  go_wp2_with (first
    | (go_at_call 45; refine HN0.out.mono ?_; clear HN0; rintro e u0 ⟨rfl, ws5', T0⟩; have a1 := cells_at T0.ev 1 _ rfl; have az1 := frozen_at T0.ev 1; have R0 := T0.set 1 (.string (bsN t0)); simp only [List.set_cons_succ, List.set_cons_zero] at R0; have HV := hide (R0.noValue hv); clear T0 R0)
    | (go_at_call 47; refine HV.out.mono ?_; clear HV; rintro e u9 ⟨rfl, g9⟩; have G9 := hide g9; clear g9))
  exact ⟨rfl, EvR.of_no HF.out G9.out rfl⟩

set_option maxRecDepth 100000 in
set_option maxHeartbeats 8000000 in
theorem ev_r_1_val (w : World) (rb B : Nat) (s said : List UInt8) (start rd n : Nat) (ws : Value) (x : Wd) (r : List Wd) (hs : s.length ≤ 1000000000000) (hst : start + said.length ≤ 1000000000001) (hsd : said.length ≤ 1048576) (hok : ∀ y ∈ x :: r, y.off + y.text.length ≤ said.length) (hT : Tabs w) (ho : rb ≠ 2 ∧ rb ≠ 0) (hB : B ≤ w.heap.size) (hP : LrAt w rb s start said ws rd) (hWs : WsAt w rb B ws n (x :: r)) (h0 : ¬ x.text = [105, 110, 118]) (h1 : x.text = [114, 101, 115]) (t0 : List UInt8) (l0 : List Wd) (rd0 : Nat) (hn0 : nameM6 true said r = .ok (t0, l0, rd0)) (v : Vl) (hv : valM6 said rd0 = .ok v) :
    Calls Tryz.prog 23 #[.pointer (some ⟨rb, 0, none⟩)] w fun e w' => EvR w rb s said start n (x :: r) e w' := by
  have HF := hide (show evM6 said n start (x :: r) = .ok ⟨2, t0, [], [], v, ((start + x.off : Nat) : Int), (n : Int), (x.col : Int)⟩ by
    simp only [evM6]
    rw [if_neg (show ¬ x.text = invL from h0), if_pos (show x.text = resL from h1)]
    simp only [hn0, hv])
  have hq1 : (x.text == [105, 110, 118]) = false := by simpa using h0
  have hq2 : (x.text == [114, 101, 115]) = true := by simpa using h1
  clear h0 h1
  have hrb0 : rb < w.heap.size := (Array.getElem?_eq_some_iff.1 hP).1
  obtain ⟨W, hW⟩ : ∃ W, w.alloc (.cells (evCells zeE (.slice none 0 0)) 48) = W := ⟨_, rfl⟩
  have bW : Below w.heap.size w W := by rw [← hW]; exact alloc_v (Below.refl _ _) _
  have zW : W.heap.size = w.heap.size + 1 := by rw [← hW]; simp
  have eW : W.heap[w.heap.size]? = some (.cells (evCells zeE (.slice none 0 0)) 48 (0, 0)) := by rw [← hW]; exact World.alloc_heap_new w _
  have HW1 := hide (wordN_k W rb B s said start rd n ws x r (by omega) ((bW.block _ hrb0).trans hP) (hWs.kept fun k hk _ => bW.block k (by omega)))
  obtain ⟨po, hpo⟩ : ∃ po : Int, ((start + x.off : Nat) : Int) = po := ⟨_, rfl⟩
  have hadd : IntKind.i64.wrap ((x.off : Int) + (start : Int)) = po := by
    have := hok x (by simp)
    rw [IntKind.wrap_i64]
    omega
  have HPO := hide hpo
  clear hpo
  have HST := hide (fun (w1 V : World) (ws1 : Value) (p1 : LrAt w1 rb s start said ws1 (x.off + x.text.length)) (q1 : WsAt w1 rb B ws1 n r) (g1 : W.grownBy w1 (some rb)) (bV : Below w1.heap.size w1 V) (cs : List Value) (eV : V.heap[w1.heap.size + 1]? = some (.cells ⟨cs⟩ 48 (0, 0))) => ev_start w W w1 V rb B s said start n x r ws1 hs hst hsd hok hT ho hB hrb0 bW zW eW p1 q1 g1 bV cs eV)
  have HW2 : Hid (Calls Tryz.prog 44 #[.pointer (some ⟨rb, 0, none⟩)] W fun e w' => e = .returned (.agg #[.string (bsN x.text), .int .i64 x.off, .int .i64 n, .int .i64 x.col]) ∧ (∃ ws', LrAt w' rb s start said ws' (x.off + x.text.length) ∧ WsAt w' rb B ws' n r) ∧ W.grownBy w' (some rb)) := HW1
  have HOK := hide hok
  clear HW1 hP hWs hT ho hB hs hst hsd hok eW bW
  go_enter Tryz.func23, Tryz.ntmps23
  go_wp2_with (go_at_call 44; refine HW2.out.mono ?_; clear HW2; rintro e w1 ⟨rfl, ⟨ws1, p1, q1⟩, g1⟩; obtain ⟨V, hV⟩ : ∃ V, (w1.alloc (.cells #[.string (bsN x.text), .int .i64 x.off, .int .i64 n, .int .i64 x.col] 93)).alloc (.cells #[.int .i64 0, .string ⟨#[]⟩, .string ⟨#[]⟩, .string ⟨#[]⟩, .int .i64 0, .int .i64 0, .int .i64 0, .string ⟨#[]⟩, .slice none 0 0, .int .i64 x.off, .int .i64 n, .int .i64 x.col] 48) = V := ⟨_, rfl⟩; have bV : Below w1.heap.size w1 V := (by rw [← hV]; exact alloc_v (alloc_v (Below.refl _ _) _) _); have eD : V.heap[w1.heap.size]? = some (.cells #[.string (bsN x.text), .int .i64 x.off, .int .i64 n, .int .i64 x.col] 93 (0, 0)) := (by rw [← hV]; exact (Below.heap_alloc _ _ _ (by simp)).trans (World.alloc_heap_new w1 _)); have eV : V.heap[w1.heap.size + 1]? = some (.cells #[.int .i64 0, .string ⟨#[]⟩, .string ⟨#[]⟩, .string ⟨#[]⟩, .int .i64 0, .int .i64 0, .int .i64 0, .string ⟨#[]⟩, .slice none 0 0, .int .i64 x.off, .int .i64 n, .int .i64 x.col] 48 (0, 0)) := (by rw [← hV]; have := World.alloc_heap_new (w1.alloc (.cells #[.string (bsN x.text), .int .i64 x.off, .int .i64 n, .int .i64 x.col] 93)) (.cells #[.int .i64 0, .string ⟨#[]⟩, .string ⟨#[]⟩, .string ⟨#[]⟩, .int .i64 0, .int .i64 0, .int .i64 0, .string ⟨#[]⟩, .slice none 0 0, .int .i64 x.off, .int .i64 n, .int .i64 x.col] 48); rwa [World.size_alloc] at this); have S0 := hide (HST.out w1 V ws1 p1 q1 g1 bV _ eV); have c0 := World.alloc_heap_new w1 (.cells #[.string (bsN x.text), .int .i64 x.off, .int .i64 n, .int .i64 x.col] 93); have d0 := cells_at c0 0 _ rfl; have d1 := cells_at c0 1 _ rfl; have d2 := cells_at c0 2 _ rfl; have d3 := cells_at c0 3 _ rfl; have ED := hide (And.intro eD eV); have LT := hide (show rb < w1.heap.size from (Array.getElem?_eq_some_iff.1 p1).1); clear p1 q1 bV eD eV c0 HST; subst hV)
  generalize hV : (w1.alloc (.cells #[.string (bsN x.text), .int .i64 x.off, .int .i64 n, .int .i64 x.col] 93)).alloc (.cells #[.int .i64 0, .string ⟨#[]⟩, .string ⟨#[]⟩, .string ⟨#[]⟩, .int .i64 0, .int .i64 0, .int .i64 0, .string ⟨#[]⟩, .slice none 0 0, .int .i64 x.off, .int .i64 n, .int .i64 x.col] 48) = V at *
  have neD : w1.heap.size ≠ w1.heap.size + 1 := by omega
  generalize hEB : w1.heap.size + 1 = E at *
  have v1 := fun q : Wv V => q.cell (cells_at S0.out.rdr 1 _ rfl)
  have v9 := fun q : Wv V => q.cell (cells_at S0.out.ev 9 _ rfl)
  have hany := Wv.any V
  clear d0 d1 d2 d3
  refine wp_region_grown_tail 10 (by kernel_rfl) (by kernel_rfl) ?_
  simp only [List.take_succ_cons, List.take_zero, List.drop_succ_cons, List.drop_zero]
  repeat (go_big_quiet_step (fail))
  refine wpQuiet_nil ?_
  intro V1 hw'
  obtain ⟨q1, rfl⟩ := hw'
  clear v1 v9 hany
  have S1 : St6 w E rb B s said start n q1.val [.int .i64 0, .string ⟨#[]⟩, .string ⟨#[]⟩, .string ⟨#[]⟩, .int .i64 0, .int .i64 0, .int .i64 0, .string ⟨#[]⟩, .slice none 0 0, .int .i64 x.off, .int .i64 n, .int .i64 x.col] ws1 (x.off + x.text.length) r := S0.out.grow (grown_of_below q1.below) ((q1.below.block _ (Array.getElem?_eq_some_iff.1 S0.out.rdr).1).trans S0.out.rdr) (S0.out.wds.grown (Nat.le_trans S0.out.hB S0.out.gr.size) (grown_of_below q1.below)) S0.out.hrd (fun _ h => h)
  have z9 := frozen_at S1.ev 9
  have y9 := cells_at S1.ev 9 _ rfl
  have S2 := S1.set 9 (.int .i64 po)
  have eD1 := (Below.heap_setCell q1.val ⟨E, 9, none⟩ (.int .i64 po) w1.heap.size neD).trans ((q1.below.block _ (Array.getElem?_eq_some_iff.1 ED.out.1).1).trans ED.out.1)
  obtain ⟨V2, hV2⟩ : ∃ V2, q1.val.setCell ⟨E, 9, none⟩ (.int .i64 po) = V2 := ⟨_, rfl⟩
  rw [hV2] at S2 eD1
  simp only [List.set_cons_succ, List.set_cons_zero] at S2
  have d0 := cells_at eD1 0 _ rfl
  have d1 := cells_at eD1 1 _ rfl
  have k0 := cells_at S2.ev 0 _ rfl
  have kz0 := frozen_at S2.ev 0
  have S3 := S2.set 0 (.int .i64 2)
  simp only [List.set_cons_zero] at S3
  have HN0 := hide (S3.name true hn0)
  obtain ⟨vk, vi, vm, vt, vl⟩ := v
  clear S1 S2 S0 S3
  go_wp2_with (first
    | (go_at_call 45; refine HN0.out.mono ?_; clear HN0; rintro e u0 ⟨rfl, ws5', T0⟩; have a1 := cells_at T0.ev 1 _ rfl; have az1 := frozen_at T0.ev 1; have R0 := T0.set 1 (.string (bsN t0)); simp only [List.set_cons_succ, List.set_cons_zero] at R0; have HV := hide (R0.value hv); have LE := hide (Array.getElem?_eq_some_iff.1 R0.ev).1; have LG := hide R0.gr.size; clear T0 R0)
    | (go_at_call 47; refine HV.out.mono ?_; clear HV; rintro e u8 ⟨⟨s', rfl, i8⟩, b8, T8⟩; obtain ⟨sa, sc, rfl, _⟩ := i8.len; have a4 := cells_at T8.ev 4 _ rfl; have az4 := frozen_at T8.ev 4; have a5 := cells_at T8.ev 5 _ rfl; have az5 := frozen_at T8.ev 5; have a6 := cells_at T8.ev 6 _ rfl; have az6 := frozen_at T8.ev 6; have a7 := cells_at T8.ev 7 _ rfl; have az7 := frozen_at T8.ev 7; have a8 := cells_at T8.ev 8 _ rfl; have az8 := frozen_at T8.ev 8; have Q0 := T8.set 4 (.int .i64 vk); have Q1 := Q0.set 5 (.int .i64 vi); have Q2 := Q1.set 6 (.int .i64 vm); have Q3 := Q2.set 7 (.string vt); have Q4 := Q3.set 8 (.slice sa vl.length sc); simp only [List.set_cons_succ, List.set_cons_zero] at Q4; obtain ⟨Y, hY⟩ : ∃ Y, (((((u8.setCell ⟨E, 4, none⟩ (.int .i64 vk)).setCell ⟨E, 5, none⟩ (.int .i64 vi)).setCell ⟨E, 6, none⟩ (.int .i64 vm)).setCell ⟨E, 7, none⟩ (.string vt)).setCell ⟨E, 8, none⟩ (.slice sa vl.length sc)) = Y := ⟨_, rfl⟩; rw [hY] at Q4; have y0 := cells_at Q4.ev 0 _ rfl; have y1 := cells_at Q4.ev 1 _ rfl; have y2 := cells_at Q4.ev 2 _ rfl; have y3 := cells_at Q4.ev 3 _ rfl; have y4 := cells_at Q4.ev 4 _ rfl; have y5 := cells_at Q4.ev 5 _ rfl; have y6 := cells_at Q4.ev 6 _ rfl; have y7 := cells_at Q4.ev 7 _ rfl; have y8 := cells_at Q4.ev 8 _ rfl; have y9 := cells_at Q4.ev 9 _ rfl; have y10 := cells_at Q4.ev 10 _ rfl; have y11 := cells_at Q4.ev 11 _ rfl; have r0 := cells_at Q4.res 0 _ rfl; have rz0 := frozen_at Q4.res 0; have r1 := cells_at Q4.res 1 _ rfl; have rz1 := frozen_at Q4.res 1; have r2 := cells_at Q4.res 2 _ rfl; have rz2 := frozen_at Q4.res 2; have r3 := cells_at Q4.res 3 _ rfl; have rz3 := frozen_at Q4.res 3; have r4 := cells_at Q4.res 4 _ rfl; have rz4 := frozen_at Q4.res 4; have r5 := cells_at Q4.res 5 _ rfl; have rz5 := frozen_at Q4.res 5; have r6 := cells_at Q4.res 6 _ rfl; have rz6 := frozen_at Q4.res 6; have r7 := cells_at Q4.res 7 _ rfl; have rz7 := frozen_at Q4.res 7; have r8 := cells_at Q4.res 8 _ rfl; have rz8 := frozen_at Q4.res 8; have r9 := cells_at Q4.res 9 _ rfl; have rz9 := frozen_at Q4.res 9; have r10 := cells_at Q4.res 10 _ rfl; have rz10 := frozen_at Q4.res 10; have r11 := cells_at Q4.res 11 _ rfl; have rz11 := frozen_at Q4.res 11; have QQ := hide (And.intro Q4 (And.intro i8 (And.intro b8 hY))); clear T8 i8 b8 Q0 Q1 Q2 Q3 Q4))
  have HPO2 := HPO.out
  subst HPO2
  obtain ⟨e1, e2, e3, e4⟩ := ev_end w Y _ E rb B s said start n _ _ _ _ QQ.out.1 ⟨2, t0, [], [], ⟨vk, vi, vm, vt, vl⟩, ((start + x.off : Nat) : Int), (n : Int), (x.col : Int)⟩ (.slice sa vl.length sc) rfl
  refine bodyPost_ret (results_cell_row rfl _ _ w.heap.size _ _ _ _ rfl e1 Tryz.underlying48 rfl infoEv12) rfl ?_
  refine EvR.of_ok HF.out e2 _ rfl (QQ.out.2.1.kept (fun b o hb => ?_) (fun b hb => ?_))
  · obtain ⟨hb1, hb2⟩ := hb
    have hE := LE.out
    have hG := LG.out
    have hW := QQ.out.1.hE
    have nE : b ≠ E := by omega
    refine World.cell?_of_block ((e3 b (by omega)).trans ?_)
    rw [← QQ.out.2.2.2, Below.heap_setCell _ _ _ _ nE, Below.heap_setCell _ _ _ _ nE, Below.heap_setCell _ _ _ _ nE, Below.heap_setCell _ _ _ _ nE, Below.heap_setCell _ _ _ _ nE]
  · obtain ⟨hb1, hb2⟩ := hb
    have hG := LG.out
    have h5 : Y.heap.size = u8.heap.size := by rw [← QQ.out.2.2.2]; simp [World.setCell]
    exact ⟨by omega, Nat.lt_of_lt_of_eq (by omega) e4.symm⟩

theorem event6_k (w : World) (rb B : Nat) (s said : List UInt8) (start rd n : Nat) (ws : Value) (x : Wd) (r : List Wd) (hs : s.length ≤ 1000000000000) (hst : start + said.length ≤ 1000000000001) (hsd : said.length ≤ 1048576) (hok : ∀ y ∈ x :: r, y.off + y.text.length ≤ said.length) (hT : Tabs w) (ho : rb ≠ 2 ∧ rb ≠ 0) (hB : B ≤ w.heap.size) (hP : LrAt w rb s start said ws rd) (hWs : WsAt w rb B ws n (x :: r)) :
    Calls Tryz.prog 23 #[.pointer (some ⟨rb, 0, none⟩)] w fun e w' => EvR w rb s said start n (x :: r) e w' := by
  by_cases h0 : x.text = [105, 110, 118]
  · cases hn0 : nameM6 true said r with
    | error z => exact ev_i_0_name w rb B s said start rd n ws x r hs hst hsd hok hT ho hB hP hWs h0 z.1 z.2 hn0
    | ok z0 =>
      obtain ⟨t0, l0, rd0⟩ := z0
      cases hn1 : nameM6 false said l0 with
      | error z => exact ev_i_1_name w rb B s said start rd n ws x r hs hst hsd hok hT ho hB hP hWs h0 t0 l0 rd0 hn0 z.1 z.2 hn1
      | ok z1 =>
        obtain ⟨t1, l1, rd1⟩ := z1
        cases hn2 : nameM6 true said l1 with
        | error z => exact ev_i_2_name w rb B s said start rd n ws x r hs hst hsd hok hT ho hB hP hWs h0 t0 l0 rd0 hn0 t1 l1 rd1 hn1 z.1 z.2 hn2
        | ok z2 =>
          obtain ⟨t2, l2, rd2⟩ := z2
          cases hv : valM6 said rd2 with
          | error z => exact ev_i_3_noval w rb B s said start rd n ws x r hs hst hsd hok hT ho hB hP hWs h0 t0 l0 rd0 hn0 t1 l1 rd1 hn1 t2 l2 rd2 hn2 z.1 z.2 hv
          | ok v => exact ev_i_3_val w rb B s said start rd n ws x r hs hst hsd hok hT ho hB hP hWs h0 t0 l0 rd0 hn0 t1 l1 rd1 hn1 t2 l2 rd2 hn2 v hv
  · by_cases h1 : x.text = [114, 101, 115]
    · cases hn0 : nameM6 true said r with
      | error z => exact ev_r_0_name w rb B s said start rd n ws x r hs hst hsd hok hT ho hB hP hWs h0 h1 z.1 z.2 hn0
      | ok z0 =>
        obtain ⟨t0, l0, rd0⟩ := z0
        cases hv : valM6 said rd0 with
        | error z => exact ev_r_1_noval w rb B s said start rd n ws x r hs hst hsd hok hT ho hB hP hWs h0 h1 t0 l0 rd0 hn0 z.1 z.2 hv
        | ok v => exact ev_r_1_val w rb B s said start rd n ws x r hs hst hsd hok hT ho hB hP hWs h0 h1 t0 l0 rd0 hn0 v hv
    · exact ev_other w rb B s said start rd n ws x r hs hst hsd hok hT ho hB hP hWs h0 h1
end Go.Proofs.YthmhcpghfbifiaaGreatDoor
