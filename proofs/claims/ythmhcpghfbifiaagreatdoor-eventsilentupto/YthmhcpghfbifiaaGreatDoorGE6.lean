/- A row of values: writing one, clearing the end; of like neighbours the first alone. -/
import Derived.Test.YthmhcpghfbifiaaGreatDoorGE5
import Derived.Test.YthmhcpghfbifiaaGreatDoorGE2
import Derived.Test.YthmhcpghfbifiaaGreatDoorGTot
namespace Go.Proofs.YthmhcpghfbifiaaGreatDoor
open Go.RowKit

/-- Behind p: those that are not like the one ahead of them. -/
def ddGo {α : Type} (eq : α → α → Bool) : α → List α → List α
  | _, [] => []
  | p, a :: l => if eq a p then ddGo eq a l else a :: ddGo eq a l
def dd {α : Type} (eq : α → α → Bool) : List α → List α
  | [] => []
  | a :: l => a :: ddGo eq a l
theorem ddGo_take {α : Type} (eq : α → α → Bool) : ∀ (l : List α) (p : α) (k : Nat) (h : k < l.length), ddGo eq p (l.take (k + 1)) = ddGo eq p (l.take k) ++ (if eq l[k] ((p :: l)[k]'(by simp; omega)) then [] else [l[k]])
  | a :: l, p, 0, _ => by
    simp only [List.take_succ_cons, List.take_zero, ddGo, List.nil_append, List.getElem_cons_zero]
  | a :: l, p, k + 1, h => by
    have := ddGo_take eq l a k (by simpa using h)
    simp only [List.take_succ_cons, ddGo, List.getElem_cons_succ] at this ⊢
    rw [this]
    split <;> simp
theorem dd_take {α : Type} (eq : α → α → Bool) (l : List α) (k : Nat) (h0 : 0 < k) (h : k < l.length) : dd eq (l.take (k + 1)) = dd eq (l.take k) ++ (if eq l[k] (l[k - 1]'(by omega)) then [] else [l[k]]) := by
  cases l with
  | nil => simp at h
  | cons a l =>
    obtain ⟨k, rfl⟩ : ∃ j, k = j + 1 := ⟨k - 1, by omega⟩
    have := ddGo_take eq l a k (by simpa using h)
    simp only [List.take_succ_cons, dd, List.getElem_cons_succ, Nat.add_sub_cancel, List.cons_append] at this ⊢
    rw [this]
theorem ddGo_len {α : Type} (eq : α → α → Bool) : ∀ (l : List α) (p : α), (ddGo eq p l).length ≤ l.length
  | [], _ => Nat.le_refl _
  | a :: l, p => by
    have := ddGo_len eq l a
    simp only [ddGo]
    split <;> simp only [List.length_cons] <;> omega
theorem dd_len {α : Type} (eq : α → α → Bool) (l : List α) : (dd eq l).length ≤ l.length := by
  cases l with
  | nil => exact Nat.le_refl _
  | cons a l => have := ddGo_len eq l a; simp only [dd, List.length_cons]; omega
theorem RowV.outside {w w' : World} {blk off : Nat} {cs : List (List Value)} (h : RowV w blk off cs) (k : w'.heap[blk]? = w.heap[blk]?) : RowV w' blk off cs := fun j hj c hc =>
  ⟨(World.cell?_of_block k).trans (h j hj c hc).1, (World.frozen?_of_block k).trans (h j hj c hc).2⟩
/-- One is written. -/
theorem RowV.store {w : World} {blk off : Nat} {cs : List (List Value)} (h : RowV w blk off cs) {k : Nat} (hk : k < cs.length) (vs : List Value) (hv : vs.length = 5) : RowV (w.setCells blk (off + k * 5) vs) blk off (cs.set k vs) := by
  intro j hj c hc
  rw [List.length_set] at hj
  rw [World.frozen?_setCells]
  refine ⟨?_, (h j hj c hc).2⟩
  by_cases e : k = j
  · subst e
    rw [World.cell?_setCells_in blk vs (off + k * 5) w (fun i hi => by rw [(h k hk i (by omega)).1]; rfl) c (by omega)]
    simp [getElem!_pos, hv, hc]
  · rw [World.cell?_setCells_out blk vs (off + k * 5) w _ (fun _ _ => by simp only; omega), (h j hj c hc).1]
    simp [List.getElem_set_ne e]
/-- The end is written over. -/
theorem RowV.cut {w : World} {blk off : Nat} {cs : List (List Value)} (h : RowV w blk off cs) (k : Nat) (vs : List Value) : RowV (w.setCells blk (off + k * 5) vs) blk off (cs.take k) := by
  intro j hj c hc
  rw [List.length_take] at hj
  rw [World.frozen?_setCells, World.cell?_setCells_out blk vs (off + k * 5) w _ (fun _ _ => by simp only; omega), (h j (by omega) c hc).1]
  exact ⟨by simp, (h j (by omega) c hc).2⟩
theorem setCells_heap (b : Nat) : ∀ (vs : List Value) (o : Nat) (w : World), (w.setCells b o vs).heap.size = w.heap.size ∧ (w.setCells b o vs).os = w.os ∧ (w.setCells b o vs).tape = w.tape ∧ (w.setCells b o vs).output = w.output ∧ ∀ k, k ≠ b → (w.setCells b o vs).heap[k]? = w.heap[k]?
  | [], _, _ => ⟨rfl, rfl, rfl, rfl, fun _ _ => rfl⟩
  | v :: r, o, w => by
    obtain ⟨h1, h2, h3, h4, h5⟩ := setCells_heap b r (o + 1) (w.setCell ⟨b, o, none⟩ v)
    have g := (Below.refl 0 w).setCell (p := ⟨b, o, none⟩) (Nat.zero_le _) v
    refine ⟨h1.trans (by simp), h2.trans g.os, h3.trans (by simp), h4.trans g.output, fun k hk => (h5 k hk).trans (Below.heap_setCell _ _ _ _ hk)⟩
theorem grown_cells {w w' : World} {b : Nat} (g : w.grownBy w' (some b)) (o : Nat) (vs : List Value) : w.grownBy (w'.setCells b o vs) (some b) := by
  obtain ⟨h1, h2, h3, h4, h5⟩ := setCells_heap b vs o w'
  exact ⟨h2.trans g.os, h3.trans g.tape, h4.trans g.output, by have := g.size; omega, fun k hk hn => (h5 k (fun e => hn (by rw [e]))).trans (g.block k hk hn)⟩
theorem clear5 (w : World) (ty : TypeId) (b o n c : Nat) (hn : 0 < n) (hc : ∀ j, j < n * 5 → (w.cell? ⟨b, o + j, none⟩).isSome = true) (hf : ∀ j, j < n * 5 → w.frozen? ⟨b, o + j, none⟩ = false) :
    (Builtin.clear_ #[44] ty #[.slice (some ⟨b, o, none⟩) n c]).run Tryz.prog w = .ok (.tuple #[]) (w.setCells b o (Builtin.zeroCells zcells n).toList) := by
  have hlen : (Builtin.zeroCells zcells n).toList.length = n * 5 := by simp [Builtin.zeroCells]
  have hst := run_storeCells_cells (P := Tryz.prog) b o (Builtin.zeroCells zcells n).toList 0 w (by rw [hlen]; simpa using hc) (by rw [hlen]; simpa using hf) (by
    intro v hv
    simp only [Builtin.zeroCells, Array.toList_map, List.mem_map] at hv
    obtain ⟨j, _, rfl⟩ := hv
    have hj : j % zcells.size < 5 := Nat.mod_lt _ (by decide)
    have hj' : j % zcells.size = 0 ∨ j % zcells.size = 1 ∨ j % zcells.size = 2 ∨ j % zcells.size = 3 ∨ j % zcells.size = 4 := by omega
    rcases hj' with e | e | e | e | e <;> rw [e] <;> rfl)
  simp only [Nat.add_zero] at hst
  obtain ⟨m, rfl⟩ : ∃ m, n = m + 1 := ⟨n - 1, by omega⟩
  simp [Builtin.clear_, run_underlying Tryz.underlying44, hst, Value.cells]
end Go.Proofs.YthmhcpghfbifiaaGreatDoor

/- Rising order, of like ones one alone: plain mathematics. -/
namespace Go.Proofs.YthmhcpghfbifiaaGreatDoor

def insV (x : Vl) : List Vl → List Vl
  | [] => [x]
  | y :: l => if ordV x y ≤ 0 then x :: y :: l else y :: insV x l
def srt : List Vl → List Vl
  | [] => []
  | x :: l => insV x (srt l)
theorem insV_perm (x : Vl) : ∀ l, (insV x l).Perm (x :: l)
  | [] => List.Perm.refl _
  | y :: l => by
    rw [insV]
    split
    · exact List.Perm.refl _
    · exact ((insV_perm x l).cons y).trans (List.Perm.swap x y l)
theorem srt_perm : ∀ l, (srt l).Perm l
  | [] => List.Perm.refl _
  | x :: l => (insV_perm x (srt l)).trans ((srt_perm l).cons x)
theorem ordV_le_trans {a b c : Vl} (h : ordV a b ≤ 0) (k : ordV b c ≤ 0) : ordV a c ≤ 0 := by
  by_cases e : ordV a b = 0
  · rw [ordV_zero e]; exact k
  · by_cases f : ordV b c = 0
    · rw [← ordV_zero f]; exact h
    · have := @ordV_trans a b c (by omega) (by omega)
      omega
theorem insV_pair (x : Vl) : ∀ {l : List Vl}, l.Pairwise (fun x y => ordV x y ≤ 0) → (insV x l).Pairwise (fun x y => ordV x y ≤ 0)
  | [], _ => by simp [insV]
  | y :: l, h => by
    rw [insV]
    split
    · rename_i hxy
      refine List.pairwise_cons.2 ⟨fun z hz => ?_, h⟩
      rcases List.mem_cons.1 hz with rfl | hz
      · exact hxy
      · exact ordV_le_trans hxy ((List.pairwise_cons.1 h).1 z hz)
    · rename_i hxy
      refine List.pairwise_cons.2 ⟨fun z hz => ?_, insV_pair x (List.pairwise_cons.1 h).2⟩
      rcases List.mem_cons.1 ((insV_perm x l).mem_iff.1 hz) with rfl | hz
      · rw [ordV_anti]; omega
      · exact (List.pairwise_cons.1 h).1 z hz
theorem srt_pair : ∀ l, (srt l).Pairwise (fun x y => ordV x y ≤ 0)
  | [] => by simp [srt]
  | x :: l => insV_pair x (srt_pair l)
theorem srt_only {s its : List Vl} (hp : s.Perm its) (hs : s.Pairwise (fun x y => ordV x y ≤ 0)) : s = srt its := by
  refine List.Perm.eq_of_pairwise (le := fun x y => ordV x y ≤ 0) (fun a b _ _ h k => ?_) hs (srt_pair its) (hp.trans (srt_perm its).symm)
  rw [ordV_anti] at k
  exact ordV_zero (by omega)
end Go.Proofs.YthmhcpghfbifiaaGreatDoor

/- CompactFunc: of like neighbours the first alone. -/
namespace Go.Proofs.YthmhcpghfbifiaaGreatDoor
open Go.RowKit

/-- Like values. -/
def Ev.like {w : World} {B n : Nat} (x y : Ev w B n) : Bool := ordV x.v y.v == 0
theorem Ev.cells_is {w : World} {B n : Nat} (x : Ev w B n) : x.cells = [.int .i64 x.v.kind, .int .i64 x.v.int, .int .i64 x.v.im, .string x.v.text, x.sl] := rfl
/-- One of a row: what its cells hold. -/
theorem RowV.one {w0 w : World} {B n blk off : Nat} {l : List (Ev w0 B n)} (h : RowV w blk off (l.map Ev.cells)) (j : Nat) (hj : j < l.length) :
    w.cell? ⟨blk, off + j * 5, none⟩ = some (.int .i64 l[j].v.kind) ∧ w.cell? ⟨blk, off + j * 5 + 1, none⟩ = some (.int .i64 l[j].v.int) ∧ w.cell? ⟨blk, off + j * 5 + 2, none⟩ = some (.int .i64 l[j].v.im) ∧ w.cell? ⟨blk, off + j * 5 + 3, none⟩ = some (.string l[j].v.text) ∧ w.cell? ⟨blk, off + j * 5 + 4, none⟩ = some l[j].sl := by
  have := fun c hc => (h j (by simpa using hj) c hc).1
  simp only [List.getElem_map] at this
  exact ⟨this 0 (by omega), this 1 (by omega), this 2 (by omega), this 3 (by omega), this 4 (by omega)⟩
theorem take_set {α : Type} : ∀ (cs : List α) (d : Nat) (x : α), d < cs.length → (cs.set d x).take (d + 1) = cs.take d ++ [x]
  | _ :: _, 0, _, _ => rfl
  | a :: cs, d + 1, x, h => by
    have := take_set cs d x (by simpa using h)
    simp only [List.set_cons_succ, List.take_succ_cons, List.cons_append, this]
theorem drop_get {α β : Type} {cs : List β} {l : List α} {f : α → β} {a : Nat} (h : cs.drop a = (l.drop a).map f) (j : Nat) (ha : a ≤ j) (hj : j < l.length) (hc : j < cs.length) : cs[j] = f l[j] := by
  have := congrArg (fun x => x[j - a]?) h
  simp only [List.getElem?_drop, List.getElem?_map] at this
  rw [show a + (j - a) = j by omega, List.getElem?_eq_getElem hj, List.getElem?_eq_getElem hc] at this
  simpa using this
theorem RowV.ev {w0 w : World} {B n blk off : Nat} {cs : List (List Value)} (h : RowV w blk off cs) (x : Ev w0 B n) (j : Nat) (hj : j < cs.length) (e : cs[j] = x.cells) :
    w.cell? ⟨blk, off + j * 5, none⟩ = some (.int .i64 x.v.kind) ∧ w.cell? ⟨blk, off + j * 5 + 1, none⟩ = some (.int .i64 x.v.int) ∧ w.cell? ⟨blk, off + j * 5 + 2, none⟩ = some (.int .i64 x.v.im) ∧ w.cell? ⟨blk, off + j * 5 + 3, none⟩ = some (.string x.v.text) ∧ w.cell? ⟨blk, off + j * 5 + 4, none⟩ = some x.sl := by
  have := fun c hc => (h j hj c hc).1
  rw [e] at this
  exact ⟨this 0 (by omega), this 1 (by omega), this 2 (by omega), this 3 (by omega), this 4 (by omega)⟩
theorem alikeV_b (n : Nat) (a b : Vl) (w : World) (B m : Nat) (sa sb : Value) (hB : B ≤ w.heap.size) (ha : ItemsAt w B n sa a.items) (hb : ItemsAt w B m sb b.items) :
    Calls Tryz.prog 148 #[.agg (vcells a sa), .agg (vcells b sb)] w fun e w' => e = .returned (.bool (ordV a b == 0)) ∧ Below w.heap.size w w' :=
  (alikeV_k n a b w B m sa sb hB ha hb).mono fun _ _ ⟨h1, h2⟩ => ⟨h1, h2.below⟩
set_option maxRecDepth 100000 in
set_option maxHeartbeats 1000000 in
theorem compact_k {w0 w : World} {B n blk off cap : Nat} (l : List (Ev w0 B n)) (hk : ∀ b o, b < B → w.cell? ⟨b, o, none⟩ = w0.cell? ⟨b, o, none⟩) (hB : B ≤ blk) (hblk : blk < w.heap.size) (hl : l.length < 4611686018427387904) (hcap : l.length ≤ cap) (hr : RowV w blk off (l.map Ev.cells)) :
    Calls Tryz.prog 147 #[.slice (some ⟨blk, off, none⟩) l.length cap, .func (.func 148) #[] #[]] w fun e w' =>
      (∃ c, e = .returned (.slice (some ⟨blk, off, none⟩) (dd Ev.like l).length c)) ∧ RowV w' blk off ((dd Ev.like l).map Ev.cells) ∧ w.grownBy w' (some blk) := by
  have HR := hide hr
  have HK := hide hk
  clear hr hk
  by_cases h2 : l.length < 2
  · have hd : dd Ev.like l = l := by
      match l, h2 with
      | [], _ => rfl
      | [_], _ => rfl
    rw [hd]
    go_enter Tryz.func147, Tryz.ntmps147
    go_wp2
    go_ret
    exact ⟨⟨_, rfl⟩, HR.out, grown_self _ _⟩
  · go_enter Tryz.func147, Tryz.ntmps147
    go_wp2
    go_loopw [5] (fun i wr => ∃ k : Nat, k < l.length ∧ i = .int .i64 ((k : Int) + 1) ∧ dd Ev.like (l.take (k + 1)) = l.take (k + 1) ∧ Below w.heap.size w wr) (fun i _ => l.length - (intOf i).toNat)
    case atStart => exact ⟨0, by omega, rfl, by (match l, h2 with | [], h => simp at h | a :: l, _ => rfl), Below.refl _ _⟩
    case round =>
      obtain ⟨k, hk, rfl, hz, hbel⟩ := hrel
      by_cases hlt : k + 1 < l.length
      · have hrr := HR.out.outside (hbel.block _ hblk)
        obtain ⟨p0, p1, p2, p3, p4⟩ := hrr.one k hk
        obtain ⟨q0, q1, q2, q3, q4⟩ := hrr.one (k + 1) hlt
        have HC := hide (fun (q : Wv wr) => alikeV_b n l[k + 1].v l[k].v q.val B n l[k + 1].sl l[k].sl (by have := hbel.size; have := q.below.size; omega) (l[k + 1].lies.kept fun b o hb => ((trans_v hbel q.below).cell (p := ⟨b, o, none⟩) (show b < w.heap.size by omega)).trans (HK.out b o hb)) (l[k].lies.kept fun b o hb => ((trans_v hbel q.below).cell (p := ⟨b, o, none⟩) (show b < w.heap.size by omega)).trans (HK.out b o hb)))
        have HD := hide (dd_take Ev.like l (k + 1) (by omega) hlt)
        have HZ := hide hz
        have HB2 := hide hbel
        have hk0 : (0 : Int) ≤ (k : Int) := by omega
        have hk1 : (k : Int) + 1 < (l.length : Int) := by omega
        have hk2 : (k : Int) < (l.length : Int) := by omega
        have hk3 : ((k : Int) + 1).toNat = k + 1 := by omega
        have hany := Wv.any wr
        have u0 := fun q : Wv wr => q.cell p0
        have u1 := fun q : Wv wr => q.cell p1
        have u2 := fun q : Wv wr => q.cell p2
        have u3 := fun q : Wv wr => q.cell p3
        have u4 := fun q : Wv wr => q.cell p4
        have v0 := fun q : Wv wr => q.cell q0
        have v1 := fun q : Wv wr => q.cell q1
        have v2 := fun q : Wv wr => q.cell q2
        have v3 := fun q : Wv wr => q.cell q3
        have v4 := fun q : Wv wr => q.cell q4
        obtain ⟨x1, y1, ex, _⟩ := l[k].lies.len
        obtain ⟨x2, y2, ey, _⟩ := l[k + 1].lies.len
        rw [ex] at u4
        rw [ey] at v4
        rw [ex, ey] at HC
        rw [show l[k + 1].like l[k + 1 - 1] = (ordV l[k + 1].v l[k].v == 0) from rfl] at HD
        clear hz hbel hrr p0 p1 p2 p3 p4 q0 q1 q2 q3 q4 ex ey
        generalize l[k].v = x at *
        generalize l[k + 1].v = y at *
        generalize x.items = xi at *
        generalize y.items = yi at *
        generalize (ordV y x == 0) = z at *
        cases z
        · go_wp2
          refine wp_region_grown (by kernel_rfl) (by kernel_rfl) ?_
          repeat (go_big_quiet_step ((go_at_call 148; exact Wv.calls _ (HC.out _))))
          refine wpQuiet_nil ?_
          intro w1 hw'
          obtain ⟨q, rfl⟩ := hw'
          go_wp2
          go_roundw
          case rel =>
            refine ⟨k + 1, hlt, by go_num, ?_, trans_v HB2.out q.below⟩
            rw [HD.out, HZ.out]
            simp
          case measure => simp [intOf]; omega
        · go_wp2
          refine wp_region_grown (by kernel_rfl) (by kernel_rfl) ?_
          repeat (go_big_quiet_step ((go_at_call 148; exact Wv.calls _ (HC.out _))))
          refine wpQuiet_nil ?_
          intro w1 hw'
          obtain ⟨q, rfl⟩ := hw'
          go_wp2
          clear u0 u1 u2 u3 u4 v0 v1 v2 v3 v4 HC
          have hd1 : dd Ev.like (l.take (k + 1 + 1)) = l.take (k + 1) := by rw [HD.out, HZ.out]; simp
          have HS := hide (And.intro hd1 (trans_v HB2.out q.below))
          clear hd1 HD HZ HB2
          generalize hL2 : l.length - (k + 1) = L2
          generalize q.val = w1 at *
          clear q hany
          go_loopw [5, 7] (fun a b wr2 => ∃ (d m : Nat) (cs : List (List Value)), a = .int .i64 d ∧ b = .int .i64 ((m : Int) + 1) ∧ m < L2 ∧ d = (dd Ev.like (l.take (k + 1 + m + 1))).length ∧ d ≤ k + 1 + m ∧ cs.length = l.length ∧ RowV wr2 blk off cs ∧ cs.take d = (dd Ev.like (l.take (k + 1 + m + 1))).map Ev.cells ∧ cs.drop (k + 1 + m) = (l.drop (k + 1 + m)).map Ev.cells ∧ w.grownBy wr2 (some blk)) (fun _ b _ => L2 - (intOf b).toNat)
          case atStart =>
            refine ⟨k + 1, 0, l.map Ev.cells, by go_num, by go_num, by omega, ?_, by omega, by simp, HR.out.outside (HS.out.2.block _ hblk), ?_, by simp, grown_of_below (r := some blk) HS.out.2⟩
            · rw [Nat.add_zero, HS.out.1]; simp; omega
            · rw [Nat.add_zero, HS.out.1]; simp
          case round =>
            obtain ⟨d, m, cs, rfl, rfl, hm, hd, hdm, hcl, hrow, htk, hdr, hgr⟩ := hrel
            by_cases hlt2 : m + 1 < L2
            · have i1 : k + 1 + m + 1 < l.length := by omega
              obtain ⟨p0, p1, p2, p3, p4⟩ := hrow.ev (l[k + 1 + m]'(by omega)) (k + 1 + m) (by omega) (drop_get hdr _ (Nat.le_refl _) (by omega) (by omega))
              obtain ⟨q0, q1, q2, q3, q4⟩ := hrow.ev l[k + 1 + m + 1] (k + 1 + m + 1) (by omega) (drop_get hdr _ (by omega) (by omega) (by omega))
              rw [show off + (k + 1 + m) * 5 = off + (k + 1) * 5 + m * 5 by omega] at p0 p1 p2 p3 p4
              rw [show off + (k + 1 + m + 1) * 5 = off + (k + 1) * 5 + (m + 1) * 5 by omega] at q0 q1 q2 q3 q4
              have hin : ∀ q : Wv wr, ∀ b o, b < B → q.val.cell? ⟨b, o, none⟩ = w0.cell? ⟨b, o, none⟩ := fun q b o hb =>
                ((q.below.cell (p := ⟨b, o, none⟩) (show b < wr.heap.size by have := hgr.size; omega)).trans (World.cell?_of_block (hgr.block b (by omega) (by intro e; cases e; omega)))).trans (HK.out b o hb)
              have HC := hide (fun (q : Wv wr) => alikeV_b n l[k + 1 + m + 1].v (l[k + 1 + m]'(by omega)).v q.val B n l[k + 1 + m + 1].sl (l[k + 1 + m]'(by omega)).sl (by have := hgr.size; have := q.below.size; omega) (l[k + 1 + m + 1].lies.kept (hin q)) ((l[k + 1 + m]'(by omega)).lies.kept (hin q)))
              have HD := hide (dd_take Ev.like l (k + 1 + m + 1) (by omega) i1)
              rw [show l[k + 1 + m + 1].like (l[k + 1 + m + 1 - 1]'(by omega)) = (ordV l[k + 1 + m + 1].v (l[k + 1 + m]'(by omega)).v == 0) from rfl] at HD
              have hk0 : (0 : Int) ≤ (m : Int) := by omega
              have hk1 : (m : Int) + 1 < (L2 : Int) := by omega
              have hk2 : (m : Int) < (L2 : Int) := by omega
              have hk3 : ((m : Int) + 1).toNat = m + 1 := by omega
              have hk4 : (d : Int) < (l.length : Int) := by omega
              have hany := Wv.any wr
              have u0 := fun q : Wv wr => q.cell p0
              have u1 := fun q : Wv wr => q.cell p1
              have u2 := fun q : Wv wr => q.cell p2
              have u3 := fun q : Wv wr => q.cell p3
              have u4 := fun q : Wv wr => q.cell p4
              have v0 := fun q : Wv wr => q.cell q0
              have v1 := fun q : Wv wr => q.cell q1
              have v2 := fun q : Wv wr => q.cell q2
              have v3 := fun q : Wv wr => q.cell q3
              have v4 := fun q : Wv wr => q.cell q4
              have HE := hide l[k + 1 + m + 1].cells_is
              obtain ⟨x1, y1, ex, _⟩ := (l[k + 1 + m]'(by omega)).lies.len
              obtain ⟨x2, y2, ey, _⟩ := l[k + 1 + m + 1].lies.len
              rw [ex] at u4
              rw [ey] at v4 HE
              rw [ex, ey] at HC
              have H2 := hide (And.intro hd (And.intro htk (And.intro hdr hgr)))
              have HW := hide hrow
              clear hd htk hdr hgr hrow hin p0 p1 p2 p3 p4 q0 q1 q2 q3 q4 ex ey
              generalize (l[k + 1 + m]'(by omega)).v = x at *
              generalize l[k + 1 + m + 1].v = y at *
              generalize x.items = xi at *
              generalize y.items = yi at *
              generalize (ordV y x == 0) = z at *
              cases z
              · go_wp2
                refine wp_region_grown (by kernel_rfl) (by kernel_rfl) ?_
                repeat (go_big_quiet_step ((go_at_call 148; exact Wv.calls _ (HC.out _))))
                refine wpQuiet_nil ?_
                intro w3 hw'
                obtain ⟨q, rfl⟩ := hw'
                have sd := (fun c hc => HW.out.outside (q.below.block _ (by have := H2.out.2.2.2.size; omega)) d (by omega) c hc)
                obtain ⟨r0, f0⟩ : q.val.cell? ⟨blk, off + d * 5, none⟩ = some _ ∧ q.val.frozen? ⟨blk, off + d * 5, none⟩ = false := sd 0 (by omega)
                obtain ⟨r1, f1⟩ : q.val.cell? ⟨blk, off + d * 5 + 1, none⟩ = some _ ∧ q.val.frozen? ⟨blk, off + d * 5 + 1, none⟩ = false := sd 1 (by omega)
                obtain ⟨r2, f2⟩ : q.val.cell? ⟨blk, off + d * 5 + 2, none⟩ = some _ ∧ q.val.frozen? ⟨blk, off + d * 5 + 2, none⟩ = false := sd 2 (by omega)
                obtain ⟨r3, f3⟩ : q.val.cell? ⟨blk, off + d * 5 + 3, none⟩ = some _ ∧ q.val.frozen? ⟨blk, off + d * 5 + 3, none⟩ = false := sd 3 (by omega)
                obtain ⟨r4, f4⟩ : q.val.cell? ⟨blk, off + d * 5 + 4, none⟩ = some _ ∧ q.val.frozen? ⟨blk, off + d * 5 + 4, none⟩ = false := sd 4 (by omega)
                have HS2 := hide sd
                clear sd
                go_wp2
                go_roundw
                case rel =>
                  obtain ⟨h1, h2, h3, h4⟩ := H2.out
                  have e := HD.out
                  rw [if_neg (by simp)] at e
                  have hst := (HW.out.outside (q.below.block _ (by have := h4.size; omega))).store (k := d) (by omega) l[k + 1 + m + 1].cells rfl
                  refine ⟨d + 1, m + 1, cs.set d l[k + 1 + m + 1].cells, by go_num, by go_num, hlt2, ?_, by omega, by simpa using hcl, ?_, ?_, ?_, ?_⟩
                  · rw [← Nat.add_assoc, e, List.length_append, ← h1]; rfl
                  · rw [HE.out] at hst
                    rw [HE.out]
                    exact hst
                  · rw [← Nat.add_assoc, e, List.map_append, ← h2]
                    exact take_set cs d _ (by omega)
                  · have := congrArg (List.drop 1) h3
                    rw [List.drop_drop, ← List.map_drop, List.drop_drop] at this
                    rw [← Nat.add_assoc, List.drop_set_of_lt (by omega)]
                    exact this
                  · have := grown_cells (grown_more h4 (grown_of_below (r := some blk) q.below)) (off + d * 5) l[k + 1 + m + 1].cells
                    rw [HE.out] at this
                    exact this
                case measure => simp [intOf]; omega
              · go_wp2
                refine wp_region_grown (by kernel_rfl) (by kernel_rfl) ?_
                repeat (go_big_quiet_step ((go_at_call 148; exact Wv.calls _ (HC.out _))))
                refine wpQuiet_nil ?_
                intro w3 hw'
                obtain ⟨q, rfl⟩ := hw'
                go_wp2
                go_roundw
                case rel =>
                  obtain ⟨h1, h2, h3, h4⟩ := H2.out
                  have e := HD.out
                  simp only [if_true, List.append_nil] at e
                  refine ⟨d, m + 1, cs, rfl, by go_num, hlt2, ?_, by omega, hcl, HW.out.outside (q.below.block _ (by have := h4.size; omega)), ?_, ?_, grown_more h4 (grown_of_below q.below)⟩
                  · rw [← Nat.add_assoc, e]; exact h1
                  · rw [← Nat.add_assoc, e]; exact h2
                  · have := congrArg (List.drop 1) h3
                    rwa [List.drop_drop, ← List.map_drop, List.drop_drop] at this
                case measure => simp [intOf]; omega
            · have hend : k + 1 + m + 1 = l.length := by omega
              have hcr : ∀ ty, (Builtin.clear_ #[44] ty #[.slice (some ⟨blk, off + d * 5, none⟩) (l.length - d) (cap - d)]).run Tryz.prog wr = .ok (.tuple #[]) (wr.setCells blk (off + d * 5) (Builtin.zeroCells zcells (l.length - d)).toList) :=
                fun ty => clear5 wr ty blk (off + d * 5) (l.length - d) (cap - d) (by omega) (fun j hj => by
                  have := (hrow (d + j / 5) (by omega) (j % 5) (Nat.mod_lt _ (by omega))).1
                  rw [show off + d * 5 + j = off + (d + j / 5) * 5 + j % 5 by omega, this]; rfl) (fun j hj => by
                  have := (hrow (d + j / 5) (by omega) (j % 5) (Nat.mod_lt _ (by omega))).2
                  rw [show off + d * 5 + j = off + (d + j / 5) * 5 + j % 5 by omega, this])
              have hk1 : ¬ (m : Int) + 1 < (L2 : Int) := by omega
              have hk4 : (d : Int) ≤ (l.length : Int) := by omega
              have hk5 : (d : Int) ≤ (cap : Int) := by omega
              have H2 := hide (And.intro hd (And.intro htk hgr))
              have HW := hide hrow
              clear hd htk hdr hgr hrow
              go_wp2
              go_ret
              obtain ⟨h1, h2, h4⟩ := H2.out
              rw [show l.take (k + 1 + m + 1) = l from List.take_of_length_le (by omega)] at h1 h2
              refine ⟨⟨_, by rw [← h1]; rfl⟩, ?_, grown_cells h4 _ _⟩
              have := HW.out.cut d (Builtin.zeroCells zcells (l.length - d)).toList
              rwa [h2] at this
      · have HZ := hide hz
        have hk1 : ¬ (k : Int) + 1 < (l.length : Int) := by omega
        clear hz
        go_wp2
        go_ret
        have e := HZ.out
        rw [List.take_of_length_le (by omega)] at e
        rw [e]
        exact ⟨⟨_, rfl⟩, HR.out.outside (hbel.block _ hblk), grown_of_below (r := some blk) hbel⟩
end Go.Proofs.YthmhcpghfbifiaaGreatDoor

/- Clone of a row of values; distinct. -/
namespace Go.Proofs.YthmhcpghfbifiaaGreatDoor
open Go.RowKit

theorem list_of {α : Type} {P : Nat → α → Prop} : ∀ n, (∀ j, j < n → ∃ x, P j x) → ∃ l : List α, l.length = n ∧ ∀ j (h : j < l.length), P j l[j]
  | 0, _ => ⟨[], rfl, fun j h => by simp at h⟩
  | n + 1, h => by
    obtain ⟨l, h1, h2⟩ := list_of n fun j hj => h j (by omega)
    obtain ⟨x, hx⟩ := h n (by omega)
    refine ⟨l ++ [x], by simp [h1], fun j hj => ?_⟩
    by_cases e : j < l.length
    · rw [List.getElem_append_left e]; exact h2 j e
    · have : j = n := by simp at hj; omega
      subst this
      rw [List.getElem_append_right (by omega)]
      simpa using hx
/-- Items, each with where its own items lie. -/
theorem ItemsAt.evs {w : World} {B n : Nat} {a : Option Addr} {len c : Nat} {its : List Vl} (h : ItemsAt w B (n + 1) (.slice a len c) its) : ∃ l : List (Ev w B n), l.map Ev.v = its ∧ ∀ j (hj : j < l.length), ∃ b off, a = some ⟨b, off, none⟩ ∧ b < B ∧ ∀ i, i < 5 → w.cell? ⟨b, off + j * 5 + i, none⟩ = l[j].cells[i]? := by
  obtain ⟨l, h1, h2⟩ := list_of (P := fun j (x : Ev w B n) => (∃ h : j < its.length, x.v = its[j]) ∧ ∃ b off, a = some ⟨b, off, none⟩ ∧ b < B ∧ ∀ i, i < 5 → w.cell? ⟨b, off + j * 5 + i, none⟩ = x.cells[i]?) its.length fun j hj => by
    obtain ⟨b, off, s', e, hb, p0, p1, p2, p3, p4, p5, p6⟩ := h.item j hj
    refine ⟨⟨its[j], s', p5, p6⟩, ⟨hj, rfl⟩, b, off, e, hb, fun i hi => ?_⟩
    match i, hi with
    | 0, _ => exact p0
    | 1, _ => exact p1
    | 2, _ => exact p2
    | 3, _ => exact p3
    | 4, _ => exact p4
  refine ⟨l, ?_, fun j hj => (h2 j hj).2⟩
  apply List.ext_getElem
  · simp [h1]
  · intro j k1 k2
    obtain ⟨_, e⟩ := (h2 j (by simpa using k1)).1
    simpa using e
theorem rowC_evs {w : World} {B n : Nat} (l : List (Ev w B n)) (j : Nat) (hj : j < l.length) (i : Nat) (hi : i < 5) : (rowC (l.map Ev.v) (l.map Ev.sl))[j * 5 + i]? = l[j].cells[i]? := by
  rw [rowC_get (by simp) j (by simpa using hj) i hi]
  simp [cells5, Ev.cells]
theorem rowC_one {w : World} {B n : Nat} (l : List (Ev w B n)) : ∀ u ∈ rowC (l.map Ev.v) (l.map Ev.sl), u.oneCell' = true := by
  induction l with
  | nil => intro u hu; simp [rowC] at hu
  | cons x l ih =>
    intro u hu
    simp only [List.map_cons, rowC, List.mem_append] at hu
    rcases hu with hu | hu
    · exact x.one u hu
    · exact ih u hu
/-- A row of one's own, as elements. -/
theorem owns_row {w0 w : World} {B n L m : Nat} {l : List (Ev w0 B n)} {v : Value} (h0 : 0 < l.length) (h : w.ownsRow L 46 5 v m (rowC (l.map Ev.v) (l.map Ev.sl))) : m = l.length ∧ ∃ g cap, v = .slice (some ⟨g, 0, none⟩) l.length cap ∧ L ≤ g ∧ g < w.heap.size ∧ l.length ≤ cap ∧ RowV w g 0 (l.map Ev.cells) := by
  have hm : m = l.length := by have := h.1; rw [rowC_len (by simp)] at this; simp at this; omega
  subst hm
  refine ⟨rfl, ?_⟩
  rcases h.2 with ⟨rfl, h0'⟩ | ⟨g, cap, cur, rfl, hb, hg, hnc, hcm, hcs, htake⟩
  · omega
  · refine ⟨g, cap, rfl, hb, (Array.getElem?_eq_some_iff.1 hg).1, hnc, fun j hj c hc => ⟨?_, frozen_at hg _⟩⟩
    have hj' : j < l.length := by simpa using hj
    have h5 : (l[j].cells).length = 5 := rfl
    have e := rowC_evs l j hj' c hc
    have := h.cells (g := g) rfl (j * 5 + c) (l[j].cells[c]) (by rw [e, List.getElem?_eq_getElem (by omega)]; rfl)
    rw [Addr.add_lit] at this
    rw [show (0 : Nat) + j * 5 + c = 0 + (j * 5 + c) by omega, this]
    simp only [List.getElem_map]
    rw [getElem!_pos l[j].cells c (by omega)]
    rfl
set_option maxRecDepth 100000 in
set_option maxHeartbeats 1000000 in
theorem cloneV_k (w : World) (B n : Nat) (ad : Addr) (c : Nat) (l : List (Ev w B n)) (h0 : 0 < l.length) (hl : l.length ≤ 1000000000) (hB : B ≤ w.heap.size) (hc : ∀ j (hj : j < l.length), ad.spot = none ∧ ad.block < B ∧ ∀ i, i < 5 → w.cell? ⟨ad.block, ad.off + j * 5 + i, none⟩ = l[j].cells[i]?) :
    Calls Tryz.prog 145 #[.slice (some ad) l.length c] w fun e w' => ∃ g cap, e = .returned (.slice (some ⟨g, 0, none⟩) l.length cap) ∧ w.heap.size ≤ g ∧ g < w'.heap.size ∧ l.length ≤ cap ∧ RowV w' g 0 (l.map Ev.cells) ∧ Below w.heap.size w w' := by
  obtain ⟨i0, hi, hz0, hz1, hz2⟩ := info_partsV infoVal
  have HB := hide hc
  obtain ⟨ab, ao, sp⟩ := ad
  obtain rfl : sp = none := (hc 0 h0).1
  have hab : ab < w.heap.size := by have := (hc 0 h0).2.1; simp only at this; omega
  clear hc
  have hnil := fun w => Lib.run_eql_slice_nil (P := Tryz.prog) w 44 46 (some ⟨ab, ao, none⟩) l.length c 0 0 Tryz.underlying44
  have hlen : (rowC (l.map Ev.v) (l.map Ev.sl)).length = l.length * 5 := by rw [rowC_len (by simp)]; simp
  go_enter Tryz.func145, Tryz.ntmps145
  go_wp2_with (at_builtin; refine wpList_append_own _ rfl _ _ 44 rfl w.heap.size 46 i0 _ 5 64 Tryz.underlying44 hi hz0 hz1 hz2 rfl (by decide) _ _ _ rfl (World.ownsRow_made w #[] 0 (Nat.le_refl _) (by unfold maxLen; omega) rfl) ⟨ab, ao, none⟩ l.length c (rowC (l.map Ev.v) (l.map Ev.sl)) rfl hlen ?c1 (rowC_one l) ?c3 ?c4 ?c5 ?_)
  case c1 =>
    intro j u hu
    have hj : j < l.length * 5 := by have := (List.getElem?_eq_some_iff.1 hu).1; omega
    have e := rowC_evs l (j / 5) (by omega) (j % 5) (Nat.mod_lt _ (by omega))
    have e2 := (HB.out (j / 5) (by omega)).2.2 (j % 5) (Nat.mod_lt _ (by omega))
    rw [show j / 5 * 5 + j % 5 = j by omega] at e
    rw [show ao + j = ao + j / 5 * 5 + j % 5 by omega, e2, ← e, hu]
  case c3 => unfold maxLen; omega
  case c4 => omega
  · intro v' w1 hown hgrow hne
    have hin := (owns_row h0 hown).2
    have hbel : Below w.heap.size w w1 := ((Below.refl _ _).alloc (Nat.le_refl _) _).grown hgrow (by simp) (fun k hk => by simp [Value.ownBlock] at hk; omega)
    obtain ⟨g, cap, rfl, hg, hg2, hcap, hrow⟩ := hin
    have R := hide (And.intro hrow hbel)
    clear hown hgrow hne hbel hrow
    go_wp2
    go_ret
    exact ⟨g, cap, rfl, hg, hg2, hcap, R.out.1, R.out.2⟩
theorem ddGo_map {α β : Type} (f : α → β) {eq : α → α → Bool} {eq' : β → β → Bool} (h : ∀ a b, eq' (f a) (f b) = eq a b) : ∀ (l : List α) (p : α), ddGo eq' (f p) (l.map f) = (ddGo eq p l).map f
  | [], _ => rfl
  | a :: l, p => by
    simp only [List.map_cons, ddGo, h, ddGo_map f h l a]
    split <;> rfl
theorem dd_map {α β : Type} (f : α → β) {eq : α → α → Bool} {eq' : β → β → Bool} (h : ∀ a b, eq' (f a) (f b) = eq a b) (l : List α) : dd eq' (l.map f) = (dd eq l).map f := by
  cases l with
  | nil => rfl
  | cons a l => simp only [List.map_cons, dd, ddGo_map f h]
/-- Like values. -/
def likeV (x y : Vl) : Bool := ordV x y == 0
/-- A row of elements: items. -/
theorem items_of_row {w0 w : World} {B C n blk cap : Nat} (l : List (Ev w0 B n)) (hk : ∀ b o, b < B → w.cell? ⟨b, o, none⟩ = w0.cell? ⟨b, o, none⟩) (hr : RowV w blk 0 (l.map Ev.cells)) (hB : B ≤ C) (hblk : blk < C) (hl : l.length ≤ maxLen) :
    ItemsAt w C (n + 1) (.slice (some ⟨blk, 0, none⟩) l.length cap) (l.map Ev.v) := by
  refine ⟨_, cap, by rw [List.length_map], by simpa using hl, fun j hj => ?_⟩
  have hj' : j < l.length := by simpa using hj
  obtain ⟨p0, p1, p2, p3, p4⟩ := hr.one j hj'
  rw [List.getElem_map]
  exact ⟨blk, 0, l[j].sl, rfl, hblk, p0, p1, p2, p3, p4, (l[j].lies.kept hk).up hB, l[j].ok⟩
/-- An element, in a world where its items lie as they did. -/
def Ev.lift {w w1 : World} {B n : Nat} (hk : ∀ b o, b < B → w1.cell? ⟨b, o, none⟩ = w.cell? ⟨b, o, none⟩) (x : Ev w B n) : Ev w1 B n := ⟨x.v, x.sl, x.lies.kept hk, x.ok⟩
set_option maxRecDepth 100000 in
/-- distinct of at least one item: in rising order, of like ones one alone. -/
theorem distinct_k (w : World) (B n : Nat) (ad : Addr) (c : Nat) (l : List (Ev w B (n + 1))) (h0 : 0 < l.length) (hl : l.length ≤ 1000000000) (hB : B ≤ w.heap.size) (hc : ∀ j (hj : j < l.length), ad.spot = none ∧ ad.block < B ∧ ∀ i, i < 5 → w.cell? ⟨ad.block, ad.off + j * 5 + i, none⟩ = l[j].cells[i]?) :
    Calls Tryz.prog 121 #[.slice (some ad) l.length c] w fun e w' => ∃ its sl, its.Perm (l.map Ev.v) ∧ its.Pairwise (fun x y => ordV x y ≤ 0) ∧ e = .returned sl ∧ ItemsAt w' w'.heap.size (n + 2) sl (dd likeV its) ∧ Below w.heap.size w w' := by
  have H1 := hide (cloneV_k w B (n + 1) ad c l h0 hl hB hc)
  have H2 := hide (fun (w1 : World) (g cap : Nat) (hg : w.heap.size ≤ g) (hg1 : g < w1.heap.size) (hb : Below w.heap.size w w1) (hr : RowV w1 g 0 (l.map Ev.cells)) =>
    sort_k (cap := cap) (l.map (Ev.lift (w1 := w1) fun b o hb' => hb.cell (p := ⟨b, o, none⟩) (Nat.lt_of_lt_of_le hb' hB))) (Nat.le_trans hB hg) hg1 (by rw [List.length_map]; omega) (show RowV w1 g 0 _ from by rw [List.map_map]; exact hr))
  simp only [List.length_map] at H2
  clear hc
  go_enter Tryz.func121, Tryz.ntmps121
  go_wp2_with (first
    | (go_at_call 145; refine H1.out.mono ?_; clear H1; rintro e w1 ⟨g, cap, rfl, hg, hg1, hcap, hrow, hb1⟩)
    | (go_at_call 146; refine (H2.out w1 g cap hg hg1 hb1 hrow).mono ?_; clear H2; rintro e w2 ⟨rfl, l2, hp, hs, hr2, hg2⟩; have H3 := hide (compact_k (cap := cap) l2 (fun b o hb => World.cell?_of_block (hg2.block b (by have := hb1.size; omega) (by intro e; cases e; omega))) (Nat.le_trans hB hg) (by have := hg2.size; omega) (by have := hp.length_eq; rw [List.length_map] at this; omega) (by have := hp.length_eq; rw [List.length_map] at this; omega) hr2); rw [show l2.length = l.length by have := hp.length_eq; rwa [List.length_map] at this] at H3)
    | (go_at_call 147; refine H3.out.mono ?_; clear H3; rintro e w3 ⟨⟨c3, rfl⟩, hr3, hg3⟩))
  go_ret
  have hlen : l2.length = l.length := by have := hp.length_eq; rwa [List.length_map] at this
  have hb2 : Below w.heap.size w w2 := ⟨hg2.os.trans hb1.os, hg2.tape.trans hb1.tape, hg2.output.trans hb1.output, Nat.le_trans hb1.size hg2.size, fun k hk => (hg2.block k (Nat.lt_of_lt_of_le hk hb1.size) (by intro e; cases e; omega)).trans (hb1.block k hk)⟩
  have hb3 : Below w.heap.size w w3 := ⟨hg3.os.trans hb2.os, hg3.tape.trans hb2.tape, hg3.output.trans hb2.output, Nat.le_trans hb2.size hg3.size, fun k hk => (hg3.block k (Nat.lt_of_lt_of_le hk hb2.size) (by intro e; cases e; omega)).trans (hb2.block k hk)⟩
  have hz := hb2.size
  have hz3 := hg3.size
  refine ⟨l2.map Ev.v, _, ?_, ?_, rfl, ?_, hb3⟩
  · have := hp.map Ev.v
    rwa [List.map_map] at this
  · rw [List.pairwise_map]; exact hs
  · rw [dd_map Ev.v (eq := Ev.like) (fun _ _ => rfl)]
    refine items_of_row (dd Ev.like l2) (fun b o hb => ?_) hr3 (by have := hg2.size; omega) (by have := hg2.size; omega) (by have := dd_len Ev.like l2; unfold maxLen; omega)
    exact ((hb3.cell (p := ⟨b, o, none⟩) (show b < w.heap.size by omega))).trans (hb1.cell (p := ⟨b, o, none⟩) (show b < w.heap.size by omega)).symm
end Go.Proofs.YthmhcpghfbifiaaGreatDoor
