/- CompactFunc: of like neighbours the first alone. -/
import Derived.Test.YtngnlofjjlkcmaaGreatDoorZVRow
namespace Go.Proofs.YtngnlofjjlkcmaaGreatDoor
open Go.RowKit

/-- Like values. -/
def Ev.like {w : World} {B n : Nat} (x y : Ev w B n) : Bool := ordV x.v y.v == 0
theorem Ev.cells_is {w : World} {B n : Nat} (x : Ev w B n) : x.cells = [.int .i64 x.v.kind, .int .i64 x.v.int, .int .i64 x.v.im, .string x.v.text, x.sl] := rfl
/-- One of a row: what its cells hold. -/
theorem RowV.one {w0 w : World} {B n blk off : Nat} {l : List (Ev w0 B n)} (h : RowV w blk off (l.map Ev.cells)) (j : Nat) (hj : j < l.length) :
    w.cell? ⟨blk, off + j * 5, none⟩ = some (.int .i64 l[j].v.kind) ∧ w.cell? ⟨blk, off + j * 5 + 1, none⟩ = some (.int .i64 l[j].v.int) ∧ w.cell? ⟨blk, off + j * 5 + 2, none⟩ = some (.int .i64 l[j].v.im) ∧ w.cell? ⟨blk, off + j * 5 + 3, none⟩ = some (.string l[j].v.text) ∧ w.cell? ⟨blk, off + j * 5 + 4, none⟩ = some l[j].sl := by
  have := fun c hc => (h j (by simpa using hj) c hc).1
  simp only [List.getElem_map] at this
  exact ⟨this 0 (by omega), this 1 (by omega), this 2 (by omega), this 3 (by omega), this 4 (by omega)⟩
theorem take_set {α : Type} : ∀ (cs : List α) (d : Nat) (x : α), d < cs.length → (cs.set d x).take (d + 1) = cs.take d ++ [x]
  | _ :: _, 0, _, _ => rfl
  | a :: cs, d + 1, x, h => by
    have := take_set cs d x (by simpa using h)
    simp only [List.set_cons_succ, List.take_succ_cons, List.cons_append, this]
theorem drop_get {α β : Type} {cs : List β} {l : List α} {f : α → β} {a : Nat} (h : cs.drop a = (l.drop a).map f) (j : Nat) (ha : a ≤ j) (hj : j < l.length) (hc : j < cs.length) : cs[j] = f l[j] := by
  have := congrArg (fun x => x[j - a]?) h
  simp only [List.getElem?_drop, List.getElem?_map] at this
  rw [show a + (j - a) = j by omega, List.getElem?_eq_getElem hj, List.getElem?_eq_getElem hc] at this
  simpa using this
theorem RowV.ev {w0 w : World} {B n blk off : Nat} {cs : List (List Value)} (h : RowV w blk off cs) (x : Ev w0 B n) (j : Nat) (hj : j < cs.length) (e : cs[j] = x.cells) :
    w.cell? ⟨blk, off + j * 5, none⟩ = some (.int .i64 x.v.kind) ∧ w.cell? ⟨blk, off + j * 5 + 1, none⟩ = some (.int .i64 x.v.int) ∧ w.cell? ⟨blk, off + j * 5 + 2, none⟩ = some (.int .i64 x.v.im) ∧ w.cell? ⟨blk, off + j * 5 + 3, none⟩ = some (.string x.v.text) ∧ w.cell? ⟨blk, off + j * 5 + 4, none⟩ = some x.sl := by
  have := fun c hc => (h j hj c hc).1
  rw [e] at this
  exact ⟨this 0 (by omega), this 1 (by omega), this 2 (by omega), this 3 (by omega), this 4 (by omega)⟩
theorem alikeV_b (n : Nat) (a b : Vl) (w : World) (B m : Nat) (sa sb : Value) (hB : B ≤ w.heap.size) (ha : ItemsAt w B n sa a.items) (hb : ItemsAt w B m sb b.items) :
    Calls Tryz.prog 104 #[.agg (vcells a sa), .agg (vcells b sb)] w fun e w' => e = .returned (.bool (ordV a b == 0)) ∧ Below w.heap.size w w' :=
  (alikeV_k n a b w B m sa sb hB ha hb).mono fun _ _ ⟨h1, h2⟩ => ⟨h1, h2.below⟩
set_option maxRecDepth 100000 in
set_option maxHeartbeats 1000000 in
theorem compact_k {w0 w : World} {B n blk off cap : Nat} (l : List (Ev w0 B n)) (hk : ∀ b o, b < B → w.cell? ⟨b, o, none⟩ = w0.cell? ⟨b, o, none⟩) (hB : B ≤ blk) (hblk : blk < w.heap.size) (hl : l.length < 4611686018427387904) (hcap : l.length ≤ cap) (hr : RowV w blk off (l.map Ev.cells)) :
    Calls Tryz.prog 103 #[.slice (some ⟨blk, off, none⟩) l.length cap, .func (.func 104) #[] #[]] w fun e w' =>
      (∃ c, e = .returned (.slice (some ⟨blk, off, none⟩) (dd Ev.like l).length c)) ∧ RowV w' blk off ((dd Ev.like l).map Ev.cells) ∧ w.grownBy w' (some blk) := by
  have HR := hide hr
  have HK := hide hk
  clear hr hk
  by_cases h2 : l.length < 2
  · have hd : dd Ev.like l = l := by
      match l, h2 with
      | [], _ => rfl
      | [_], _ => rfl
    rw [hd]
    go_enter Tryz.func103, Tryz.ntmps103
    go_wp2
    go_ret
    exact ⟨⟨_, rfl⟩, HR.out, grown_self _ _⟩
  · go_enter Tryz.func103, Tryz.ntmps103
    go_wp2
    go_loopw [5] (fun i wr => ∃ k : Nat, k < l.length ∧ i = .int .i64 ((k : Int) + 1) ∧ dd Ev.like (l.take (k + 1)) = l.take (k + 1) ∧ Below w.heap.size w wr) (fun i _ => l.length - (intOf i).toNat)
    case atStart => exact ⟨0, by omega, rfl, by (match l, h2 with | [], h => simp at h | a :: l, _ => rfl), Below.refl _ _⟩
    case round =>
      obtain ⟨k, hk, rfl, hz, hbel⟩ := hrel
      by_cases hlt : k + 1 < l.length
      · have hrr := HR.out.outside (hbel.block _ hblk)
        obtain ⟨p0, p1, p2, p3, p4⟩ := hrr.one k hk
        obtain ⟨q0, q1, q2, q3, q4⟩ := hrr.one (k + 1) hlt
        have HC := hide (fun (q : Wv wr) => alikeV_b n l[k + 1].v l[k].v q.val B n l[k + 1].sl l[k].sl (by have := hbel.size; have := q.below.size; omega) (l[k + 1].lies.kept fun b o hb => ((trans_v hbel q.below).cell (p := ⟨b, o, none⟩) (show b < w.heap.size by omega)).trans (HK.out b o hb)) (l[k].lies.kept fun b o hb => ((trans_v hbel q.below).cell (p := ⟨b, o, none⟩) (show b < w.heap.size by omega)).trans (HK.out b o hb)))
        have HD := hide (dd_take Ev.like l (k + 1) (by omega) hlt)
        have HZ := hide hz
        have HB2 := hide hbel
        have hk0 : (0 : Int) ≤ (k : Int) := by omega
        have hk1 : (k : Int) + 1 < (l.length : Int) := by omega
        have hk2 : (k : Int) < (l.length : Int) := by omega
        have hk3 : ((k : Int) + 1).toNat = k + 1 := by omega
        have hany := Wv.any wr
        have u0 := fun q : Wv wr => q.cell p0
        have u1 := fun q : Wv wr => q.cell p1
        have u2 := fun q : Wv wr => q.cell p2
        have u3 := fun q : Wv wr => q.cell p3
        have u4 := fun q : Wv wr => q.cell p4
        have v0 := fun q : Wv wr => q.cell q0
        have v1 := fun q : Wv wr => q.cell q1
        have v2 := fun q : Wv wr => q.cell q2
        have v3 := fun q : Wv wr => q.cell q3
        have v4 := fun q : Wv wr => q.cell q4
        obtain ⟨x1, y1, ex, _⟩ := l[k].lies.len
        obtain ⟨x2, y2, ey, _⟩ := l[k + 1].lies.len
        rw [ex] at u4
        rw [ey] at v4
        rw [ex, ey] at HC
        rw [show l[k + 1].like l[k + 1 - 1] = (ordV l[k + 1].v l[k].v == 0) from rfl] at HD
        clear hz hbel hrr p0 p1 p2 p3 p4 q0 q1 q2 q3 q4 ex ey
        generalize l[k].v = x at *
        generalize l[k + 1].v = y at *
        generalize x.items = xi at *
        generalize y.items = yi at *
        generalize (ordV y x == 0) = z at *
        cases z
        · go_wp2
          refine wp_region_grown (by kernel_rfl) (by kernel_rfl) ?_
          repeat (go_big_quiet_step ((go_at_call 104; exact Wv.calls _ (HC.out _))))
          refine wpQuiet_nil ?_
          intro w1 hw'
          obtain ⟨q, rfl⟩ := hw'
          go_wp2
          go_roundw
          case rel =>
            refine ⟨k + 1, hlt, by go_num, ?_, trans_v HB2.out q.below⟩
            rw [HD.out, HZ.out]
            simp
          case measure => simp [intOf]; omega
        · go_wp2
          refine wp_region_grown (by kernel_rfl) (by kernel_rfl) ?_
          repeat (go_big_quiet_step ((go_at_call 104; exact Wv.calls _ (HC.out _))))
          refine wpQuiet_nil ?_
          intro w1 hw'
          obtain ⟨q, rfl⟩ := hw'
          go_wp2
          clear u0 u1 u2 u3 u4 v0 v1 v2 v3 v4 HC
          have hd1 : dd Ev.like (l.take (k + 1 + 1)) = l.take (k + 1) := by rw [HD.out, HZ.out]; simp
          have HS := hide (And.intro hd1 (trans_v HB2.out q.below))
          clear hd1 HD HZ HB2
          generalize hL2 : l.length - (k + 1) = L2
          generalize q.val = w1 at *
          clear q hany
          go_loopw [5, 7] (fun a b wr2 => ∃ (d m : Nat) (cs : List (List Value)), a = .int .i64 d ∧ b = .int .i64 ((m : Int) + 1) ∧ m < L2 ∧ d = (dd Ev.like (l.take (k + 1 + m + 1))).length ∧ d ≤ k + 1 + m ∧ cs.length = l.length ∧ RowV wr2 blk off cs ∧ cs.take d = (dd Ev.like (l.take (k + 1 + m + 1))).map Ev.cells ∧ cs.drop (k + 1 + m) = (l.drop (k + 1 + m)).map Ev.cells ∧ w.grownBy wr2 (some blk)) (fun _ b _ => L2 - (intOf b).toNat)
          case atStart =>
            refine ⟨k + 1, 0, l.map Ev.cells, by go_num, by go_num, by omega, ?_, by omega, by simp, HR.out.outside (HS.out.2.block _ hblk), ?_, by simp, grown_of_below (r := some blk) HS.out.2⟩
            · rw [Nat.add_zero, HS.out.1]; simp; omega
            · rw [Nat.add_zero, HS.out.1]; simp
          case round =>
            obtain ⟨d, m, cs, rfl, rfl, hm, hd, hdm, hcl, hrow, htk, hdr, hgr⟩ := hrel
            by_cases hlt2 : m + 1 < L2
            · have i1 : k + 1 + m + 1 < l.length := by omega
              obtain ⟨p0, p1, p2, p3, p4⟩ := hrow.ev (l[k + 1 + m]'(by omega)) (k + 1 + m) (by omega) (drop_get hdr _ (Nat.le_refl _) (by omega) (by omega))
              obtain ⟨q0, q1, q2, q3, q4⟩ := hrow.ev l[k + 1 + m + 1] (k + 1 + m + 1) (by omega) (drop_get hdr _ (by omega) (by omega) (by omega))
              rw [show off + (k + 1 + m) * 5 = off + (k + 1) * 5 + m * 5 by omega] at p0 p1 p2 p3 p4
              rw [show off + (k + 1 + m + 1) * 5 = off + (k + 1) * 5 + (m + 1) * 5 by omega] at q0 q1 q2 q3 q4
              have hin : ∀ q : Wv wr, ∀ b o, b < B → q.val.cell? ⟨b, o, none⟩ = w0.cell? ⟨b, o, none⟩ := fun q b o hb =>
                ((q.below.cell (p := ⟨b, o, none⟩) (show b < wr.heap.size by have := hgr.size; omega)).trans (World.cell?_of_block (hgr.block b (by omega) (by intro e; cases e; omega)))).trans (HK.out b o hb)
              have HC := hide (fun (q : Wv wr) => alikeV_b n l[k + 1 + m + 1].v (l[k + 1 + m]'(by omega)).v q.val B n l[k + 1 + m + 1].sl (l[k + 1 + m]'(by omega)).sl (by have := hgr.size; have := q.below.size; omega) (l[k + 1 + m + 1].lies.kept (hin q)) ((l[k + 1 + m]'(by omega)).lies.kept (hin q)))
              have HD := hide (dd_take Ev.like l (k + 1 + m + 1) (by omega) i1)
              rw [show l[k + 1 + m + 1].like (l[k + 1 + m + 1 - 1]'(by omega)) = (ordV l[k + 1 + m + 1].v (l[k + 1 + m]'(by omega)).v == 0) from rfl] at HD
              have hk0 : (0 : Int) ≤ (m : Int) := by omega
              have hk1 : (m : Int) + 1 < (L2 : Int) := by omega
              have hk2 : (m : Int) < (L2 : Int) := by omega
              have hk3 : ((m : Int) + 1).toNat = m + 1 := by omega
              have hk4 : (d : Int) < (l.length : Int) := by omega
              have hany := Wv.any wr
              have u0 := fun q : Wv wr => q.cell p0
              have u1 := fun q : Wv wr => q.cell p1
              have u2 := fun q : Wv wr => q.cell p2
              have u3 := fun q : Wv wr => q.cell p3
              have u4 := fun q : Wv wr => q.cell p4
              have v0 := fun q : Wv wr => q.cell q0
              have v1 := fun q : Wv wr => q.cell q1
              have v2 := fun q : Wv wr => q.cell q2
              have v3 := fun q : Wv wr => q.cell q3
              have v4 := fun q : Wv wr => q.cell q4
              have HE := hide l[k + 1 + m + 1].cells_is
              obtain ⟨x1, y1, ex, _⟩ := (l[k + 1 + m]'(by omega)).lies.len
              obtain ⟨x2, y2, ey, _⟩ := l[k + 1 + m + 1].lies.len
              rw [ex] at u4
              rw [ey] at v4 HE
              rw [ex, ey] at HC
              have H2 := hide (And.intro hd (And.intro htk (And.intro hdr hgr)))
              have HW := hide hrow
              clear hd htk hdr hgr hrow hin p0 p1 p2 p3 p4 q0 q1 q2 q3 q4 ex ey
              generalize (l[k + 1 + m]'(by omega)).v = x at *
              generalize l[k + 1 + m + 1].v = y at *
              generalize x.items = xi at *
              generalize y.items = yi at *
              generalize (ordV y x == 0) = z at *
              cases z
              · go_wp2
                refine wp_region_grown (by kernel_rfl) (by kernel_rfl) ?_
                repeat (go_big_quiet_step ((go_at_call 104; exact Wv.calls _ (HC.out _))))
                refine wpQuiet_nil ?_
                intro w3 hw'
                obtain ⟨q, rfl⟩ := hw'
                have sd := (fun c hc => HW.out.outside (q.below.block _ (by have := H2.out.2.2.2.size; omega)) d (by omega) c hc)
                obtain ⟨r0, f0⟩ : q.val.cell? ⟨blk, off + d * 5, none⟩ = some _ ∧ q.val.frozen? ⟨blk, off + d * 5, none⟩ = false := sd 0 (by omega)
                obtain ⟨r1, f1⟩ : q.val.cell? ⟨blk, off + d * 5 + 1, none⟩ = some _ ∧ q.val.frozen? ⟨blk, off + d * 5 + 1, none⟩ = false := sd 1 (by omega)
                obtain ⟨r2, f2⟩ : q.val.cell? ⟨blk, off + d * 5 + 2, none⟩ = some _ ∧ q.val.frozen? ⟨blk, off + d * 5 + 2, none⟩ = false := sd 2 (by omega)
                obtain ⟨r3, f3⟩ : q.val.cell? ⟨blk, off + d * 5 + 3, none⟩ = some _ ∧ q.val.frozen? ⟨blk, off + d * 5 + 3, none⟩ = false := sd 3 (by omega)
                obtain ⟨r4, f4⟩ : q.val.cell? ⟨blk, off + d * 5 + 4, none⟩ = some _ ∧ q.val.frozen? ⟨blk, off + d * 5 + 4, none⟩ = false := sd 4 (by omega)
                have HS2 := hide sd
                clear sd
                go_wp2
                go_roundw
                case rel =>
                  obtain ⟨h1, h2, h3, h4⟩ := H2.out
                  have e := HD.out
                  rw [if_neg (by simp)] at e
                  have hst := (HW.out.outside (q.below.block _ (by have := h4.size; omega))).store (k := d) (by omega) l[k + 1 + m + 1].cells rfl
                  refine ⟨d + 1, m + 1, cs.set d l[k + 1 + m + 1].cells, by go_num, by go_num, hlt2, ?_, by omega, by simpa using hcl, ?_, ?_, ?_, ?_⟩
                  · rw [← Nat.add_assoc, e, List.length_append, ← h1]; rfl
                  · rw [HE.out] at hst
                    rw [HE.out]
                    exact hst
                  · rw [← Nat.add_assoc, e, List.map_append, ← h2]
                    exact take_set cs d _ (by omega)
                  · have := congrArg (List.drop 1) h3
                    rw [List.drop_drop, ← List.map_drop, List.drop_drop] at this
                    rw [← Nat.add_assoc, List.drop_set_of_lt (by omega)]
                    exact this
                  · have := grown_cells (grown_more h4 (grown_of_below (r := some blk) q.below)) (off + d * 5) l[k + 1 + m + 1].cells
                    rw [HE.out] at this
                    exact this
                case measure => simp [intOf]; omega
              · go_wp2
                refine wp_region_grown (by kernel_rfl) (by kernel_rfl) ?_
                repeat (go_big_quiet_step ((go_at_call 104; exact Wv.calls _ (HC.out _))))
                refine wpQuiet_nil ?_
                intro w3 hw'
                obtain ⟨q, rfl⟩ := hw'
                go_wp2
                go_roundw
                case rel =>
                  obtain ⟨h1, h2, h3, h4⟩ := H2.out
                  have e := HD.out
                  simp only [if_true, List.append_nil] at e
                  refine ⟨d, m + 1, cs, rfl, by go_num, hlt2, ?_, by omega, hcl, HW.out.outside (q.below.block _ (by have := h4.size; omega)), ?_, ?_, grown_more h4 (grown_of_below q.below)⟩
                  · rw [← Nat.add_assoc, e]; exact h1
                  · rw [← Nat.add_assoc, e]; exact h2
                  · have := congrArg (List.drop 1) h3
                    rwa [List.drop_drop, ← List.map_drop, List.drop_drop] at this
                case measure => simp [intOf]; omega
            · have hend : k + 1 + m + 1 = l.length := by omega
              have hcr : ∀ ty, (Builtin.clear_ #[24] ty #[.slice (some ⟨blk, off + d * 5, none⟩) (l.length - d) (cap - d)]).run Tryz.prog wr = .ok (.tuple #[]) (wr.setCells blk (off + d * 5) (Builtin.zeroCells zcells (l.length - d)).toList) :=
                fun ty => clear5 wr ty blk (off + d * 5) (l.length - d) (cap - d) (by omega) (fun j hj => by
                  have := (hrow (d + j / 5) (by omega) (j % 5) (Nat.mod_lt _ (by omega))).1
                  rw [show off + d * 5 + j = off + (d + j / 5) * 5 + j % 5 by omega, this]; rfl) (fun j hj => by
                  have := (hrow (d + j / 5) (by omega) (j % 5) (Nat.mod_lt _ (by omega))).2
                  rw [show off + d * 5 + j = off + (d + j / 5) * 5 + j % 5 by omega, this])
              have hk1 : ¬ (m : Int) + 1 < (L2 : Int) := by omega
              have hk4 : (d : Int) ≤ (l.length : Int) := by omega
              have hk5 : (d : Int) ≤ (cap : Int) := by omega
              have H2 := hide (And.intro hd (And.intro htk hgr))
              have HW := hide hrow
              clear hd htk hdr hgr hrow
              go_wp2
              go_ret
              obtain ⟨h1, h2, h4⟩ := H2.out
              rw [show l.take (k + 1 + m + 1) = l from List.take_of_length_le (by omega)] at h1 h2
              refine ⟨⟨_, by rw [← h1]; rfl⟩, ?_, grown_cells h4 _ _⟩
              have := HW.out.cut d (Builtin.zeroCells zcells (l.length - d)).toList
              rwa [h2] at this
      · have HZ := hide hz
        have hk1 : ¬ (k : Int) + 1 < (l.length : Int) := by omega
        clear hz
        go_wp2
        go_ret
        have e := HZ.out
        rw [List.take_of_length_le (by omega)] at e
        rw [e]
        exact ⟨⟨_, rfl⟩, HR.out.outside (hbel.block _ hblk), grown_of_below (r := some blk) hbel⟩
end Go.Proofs.YtngnlofjjlkcmaaGreatDoor
