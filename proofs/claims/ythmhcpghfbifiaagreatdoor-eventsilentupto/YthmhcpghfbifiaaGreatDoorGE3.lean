/- Rows of values that a call has made, while other blocks turn. -/
import Derived.Test.YthmhcpghfbifiaaGreatDoorZVCopied
import Derived.Test.YthmhcpghfbifiaaGreatDoorGHead
namespace Go.Proofs.YthmhcpghfbifiaaGreatDoor
open Go.RowKit

theorem own_far {W W' : World} {L : Nat} {e : TypeId} {size : Nat} {v : Value} {k : Nat} {xs : List Value} (h : W.ownsRow L e size v k xs) (hl : ∀ j, L ≤ j → j < W.heap.size → W'.heap[j]? = W.heap[j]?) : W'.ownsRow L e size v k xs := by
  refine ⟨h.1, ?_⟩
  rcases h.2 with h0 | ⟨g, cap, cur, hv, hb, hh, rest⟩
  · exact .inl h0
  · exact .inr ⟨g, cap, cur, hv, hb, (hl g hb (Array.getElem?_eq_some_iff.1 hh).1).trans hh, rest⟩
theorem OwnAt.far {w w' : World} {L n : Nat} {v : Value} {its : List Vl} (h : OwnAt w L n v its) (hs : w.heap.size ≤ w'.heap.size) (hk : ∀ k, L ≤ k → k < w.heap.size → w'.heap[k]? = w.heap[k]?) : OwnAt w' L n v its := by
  obtain ⟨ss, hl, hr, hc⟩ := h
  refine ⟨ss, hl, own_far hr hk, fun j hj => ?_⟩
  obtain ⟨h1, h2⟩ := hc j hj
  exact ⟨h1.kept (fun b o hb => World.cell?_of_block (hk b hb.1 hb.2.1)) (fun b hb => ⟨hb.1, by omega, hb.2.2⟩), h2⟩
/-- One value more is laid behind; its items lie in blocks of their own. -/
theorem OwnAt.pushX {W : World} {L n : Nat} {v s : Value} {its : List Vl} {x : Vl} (h : OwnAt W L n v its) (hL : L ≤ W.heap.size) (hx : ItemsIn W (fun b => L ≤ b ∧ b < W.heap.size ∧ some b ≠ v.ownBlock) n s x.items) (ht : x.ok) (hn : its.length + 1 ≤ 1000000000) (ty : TypeId) :
    ∃ v' w', (Builtin.append_ #[44, 44] ty #[v, .slice (some ⟨W.heap.size, 0, none⟩) 1 1]).run Tryz.prog (W.alloc (.cells #[.int .i64 x.kind, .int .i64 x.int, .int .i64 x.im, .string x.text, s] 46)) = .ok v' w' ∧ OwnAt w' L n v' (its ++ [x]) ∧ Below L W w' := by
  obtain ⟨i0, hi, hz0, hz1, hz2⟩ := info_partsV infoVal
  obtain ⟨ss, hl, hr, hc⟩ := h
  obtain ⟨sa, sc, rfl, _⟩ := hx.len
  have hbA : Below W.heap.size W (W.alloc (.cells #[.int .i64 x.kind, .int .i64 x.int, .int .i64 x.im, .string x.text, .slice sa x.items.length sc] 46)) := alloc_v (Below.refl _ _) _
  have eA := World.alloc_heap_new W (.cells #[.int .i64 x.kind, .int .i64 x.int, .int .i64 x.im, .string x.text, .slice sa x.items.length sc] 46)
  have hrA : (W.alloc (.cells #[.int .i64 x.kind, .int .i64 x.int, .int .i64 x.im, .string x.text, .slice sa x.items.length sc] 46)).ownsRow L 46 5 v its.length (rowC its ss) := hr.kept (grown_of_below (r := none) hbA) (by cases v.ownBlock <;> simp)
  obtain ⟨g, cap, w', hrun, A1, A2, A3, A4⟩ := run_append_lies (P := Tryz.prog) (W.alloc (.cells #[.int .i64 x.kind, .int .i64 x.int, .int .i64 x.im, .string x.text, .slice sa x.items.length sc] 46)) 44 ty L 46 i0 _ 5 64 Tryz.underlying44 hi hz0 hz1 hz2 rfl (by decide) v its.length (rowC its ss) hrA ⟨W.heap.size, 0, none⟩ 1 1 (cells5 x (.slice sa x.items.length sc)) rfl (fun j u hj => by
      rw [Addr.add_lit, Nat.zero_add]
      exact cells_at eA j u (by simpa [cells5] using hj)) (fun u hu => by simp [cells5] at hu; rcases hu with rfl | rfl | rfl | rfl | rfl <;> rfl) (by omega) (by unfold maxLen; omega) (by omega) (by rw [World.size_alloc]; omega) (W.heap.size + 1) (by rw [World.size_alloc])
  have hgz := A2.size
  rw [World.size_alloc] at hgz
  have hvl := hr.lt
  refine ⟨_, w', hrun, ⟨ss ++ [.slice sa x.items.length sc], by simp [hl], ?_, fun j hj => ?_⟩, ?_⟩
  · rw [rowC_snoc _ _ hl, List.length_append]
    exact A1
  · have keep : ∀ b o, b < W.heap.size → some b ≠ v.ownBlock → w'.cell? ⟨b, o, none⟩ = W.cell? ⟨b, o, none⟩ := fun b o h1 h2 => (World.cell?_of_block (A2.block b (by rw [World.size_alloc]; omega) h2)).trans ((bcellV hbA).1 b o h1)
    have apart : ∀ b, b < W.heap.size → some b ≠ v.ownBlock → some b ≠ Value.ownBlock (.slice (some ⟨g, 0, none⟩) (its.length + 1) cap) := fun b h1 h2 eq => by
      simp only [Value.ownBlock, Option.some.injEq] at eq
      rcases A3 with A3 | A3
      · exact h2 (by rw [A3, eq])
      · omega
    by_cases e : j < its.length
    · obtain ⟨h1, h2⟩ := hc j e
      rw [List.getElem_append_left (by omega), List.getElem_append_left e]
      exact ⟨h1.kept (fun b o hb => keep b o hb.2.1 hb.2.2) (fun b hb => ⟨hb.1, by omega, apart b hb.2.1 hb.2.2⟩), h2⟩
    · have ej : j = its.length := by rw [List.length_append, List.length_singleton] at hj; omega
      subst ej
      rw [List.getElem_append_right (by omega), List.getElem_append_right (by omega)]
      simp only [hl, Nat.sub_self, List.getElem_singleton]
      exact ⟨hx.kept (fun b o hb => keep b o hb.2.1 hb.2.2) (fun b hb => ⟨hb.1, by omega, apart b hb.2.1 hb.2.2⟩), ht⟩
  · have hb1 : Below L W (W.alloc (.cells #[.int .i64 x.kind, .int .i64 x.int, .int .i64 x.im, .string x.text, .slice sa x.items.length sc] 46)) := hbA.mono hL
    exact hb1.grown A2 (by rw [World.size_alloc]; omega) (fun k hk => (hvl k hk).1)
end Go.Proofs.YthmhcpghfbifiaaGreatDoor

/- The decoder's value, where it succeeds. -/
namespace Go.Proofs.YthmhcpghfbifiaaGreatDoor
open Go.RowKit

theorem unz_ok (u : Nat) (h : u < 18446744073709551616) : -9223372036854775808 ≤ unz u ∧ unz u ≤ 9223372036854775807 := by
  unfold unz
  split <;> omega
theorem ok_mk {k i m : Int} {t : ByteArray} {l : List Vl} (h1 : t.size ≤ 1048576) (h2 : -9223372036854775808 ≤ i ∧ i ≤ 9223372036854775807) (h3 : -9223372036854775808 ≤ m ∧ m ≤ 9223372036854775807) : (⟨k, i, m, t, l⟩ : Vl).ok := ⟨h1, h2, h3⟩
theorem headM_ok {l : List UInt8} {v : Vl} {k : Nat} {r : List UInt8} (h : headM l = some (v, k, r)) (hl : l.length ≤ 139) : v.ok ∧ v.items = [] ∧ r.length ≤ l.length ∧ k < 18446744073709551616 := by
  have e0 : (⟨#[]⟩ : ByteArray).size ≤ 1048576 := by decide
  cases l with
  | nil => simp [headM] at h
  | cons c t =>
    simp only [List.length_cons] at hl
    simp only [headM] at h
    have hf := front_lt t
    split at h
    · cases t with
      | nil => simp at h
      | cons x t =>
        simp only [Option.some.injEq, Prod.mk.injEq] at h
        obtain ⟨rfl, rfl, rfl⟩ := h
        have := x.toNat_lt
        exact ⟨ok_mk e0 ⟨by omega, by omega⟩ ⟨by omega, by omega⟩, rfl, by simp; omega, by omega⟩
    · split at h
      · split at h
        · simp only [Option.some.injEq, Prod.mk.injEq] at h
          obtain ⟨rfl, rfl, rfl⟩ := h
          exact ⟨ok_mk e0 (unz_ok _ hf) ⟨by omega, by omega⟩, rfl, by simp; omega, by omega⟩
        · cases h
      · split at h
        · split at h
          · split at h
            · simp only [Option.some.injEq, Prod.mk.injEq] at h
              obtain ⟨rfl, rfl, rfl⟩ := h
              exact ⟨ok_mk e0 (unz_ok _ hf) (unz_ok _ (front_lt _)), rfl, by simp; omega, by omega⟩
            · cases h
          · cases h
        · split at h
          · split at h
            · simp only [Option.some.injEq, Prod.mk.injEq] at h
              obtain ⟨rfl, rfl, rfl⟩ := h
              refine ⟨ok_mk ?_ ⟨by omega, by omega⟩ ⟨by omega, by omega⟩, rfl, by have := textRest_le t; simp; omega, by omega⟩
              have : (bytesOf (textOf t)).size = (textOf t).length := by unfold bytesOf; simp [ByteArray.size]
              show (bytesOf (textOf t)).size ≤ 1048576
              rw [this]
              unfold textOf
              split
              · simp; omega
              · simp
            · cases h
          · split at h
            · split at h
              · simp only [Option.some.injEq, Prod.mk.injEq] at h
                obtain ⟨rfl, rfl, rfl⟩ := h
                exact ⟨ok_mk e0 ⟨by omega, by omega⟩ ⟨by omega, by omega⟩, rfl, by simp; omega, hf⟩
              · cases h
            · simp only [Option.some.injEq, Prod.mk.injEq] at h
              obtain ⟨rfl, rfl, rfl⟩ := h
              exact ⟨ok_mk e0 ⟨by omega, by omega⟩ ⟨by omega, by omega⟩, rfl, by simp, by omega⟩
/-- head, where it succeeds. -/
theorem head_k (w : World) (db B : Nat) (sl : Value) (l : List UInt8) (p q : Nat) (hD : DecAt w db sl p q) (hB : BytesIn w 0 B sl l) (hb : B ≤ db) (hp : p ≤ l.length) (hl : l.length ≤ 1000000000000) {v : Vl} {n : Nat} {r : List UInt8} (h : headM (seen l p) = some (v, n, r)) :
    Calls Tryz.prog 136 #[.pointer (some ⟨db, 0, none⟩)] w fun e w' => e = .returned (.tuple #[.agg (vcells v (.slice none 0 0)), .int .u64 n]) ∧ DecAt w' db sl (p + ((seen l p).length - r.length)) q ∧ w.grownBy w' (some db) := by
  cases hs : seen l p with
  | nil => rw [hs] at h; simp [headM] at h
  | cons k t =>
    rw [hs] at h
    rw [← hs]
    simp only [headM] at h
    split at h
    · rename_i hk
      cases t with
      | nil => simp at h
      | cons x t =>
        simp only [Option.some.injEq, Prod.mk.injEq] at h
        obtain ⟨rfl, rfl, rfl⟩ := h
        exact head_bool w db B sl l p q hD hB hb hp hl k _ hs hk x t rfl
    · split at h
      · rename_i hk
        split at h
        · rename_i hf
          simp only [Option.some.injEq, Prod.mk.injEq] at h
          obtain ⟨rfl, rfl, rfl⟩ := h
          exact head_int w db B sl l p q hD hB hb hp hl k _ hs hk hf
        · cases h
      · split at h
        · rename_i hk
          split at h
          · rename_i hf
            split at h
            · rename_i hf2
              simp only [Option.some.injEq, Prod.mk.injEq] at h
              obtain ⟨rfl, rfl, rfl⟩ := h
              exact head_gauss w db B sl l p q hD hB hb hp hl k _ hs hk hf hf2
            · cases h
          · cases h
        · split at h
          · rename_i hk
            split at h
            · rename_i hf
              simp only [Option.some.injEq, Prod.mk.injEq] at h
              obtain ⟨rfl, rfl, rfl⟩ := h
              exact head_sym w db B sl l p q hD hB hb hp hl k _ hs hk hf
            · cases h
          · split at h
            · rename_i hk
              split at h
              · rename_i hf
                simp only [Option.some.injEq, Prod.mk.injEq] at h
                obtain ⟨rfl, rfl, rfl⟩ := h
                rcases hk with hk | hk | hk
                · rw [hk]; exact head_items5 w db B sl l p q hD hB hb hp hl k _ hs hk hf
                · rw [hk]; exact head_items6 w db B sl l p q hD hB hb hp hl k _ hs hk hf
                · rw [hk]; exact head_items7 w db B sl l p q hD hB hb hp hl k _ hs hk hf
              · cases h
            · rename_i h1 h2 h3 h4 h5
              simp only [Option.some.injEq, Prod.mk.injEq] at h
              obtain ⟨rfl, rfl, rfl⟩ := h
              exact head_other w db B sl l p q hD hB hb hp hl k _ hs (by omega)
theorem itsM_le {l : List UInt8} {g : Nat → Nat → Option (Vl × Nat × Nat)} (hg : ∀ {p q v p' q'}, p ≤ l.length → g p q = some (v, p', q') → p' ≤ l.length ∧ q < q' ∧ q' ≤ 4096) : ∀ (n : Nat) {p q : Nat} {xs : List Vl} {p' q' : Nat}, p ≤ l.length → q ≤ 4096 → itsM g n p q = some (xs, p', q') → p' ≤ l.length ∧ q + n ≤ q' ∧ q' ≤ 4096 ∧ xs.length = n
  | 0, p, q, xs, p', q', hp, hq, h => by
    simp only [itsM, Option.some.injEq, Prod.mk.injEq] at h
    obtain ⟨rfl, rfl, rfl⟩ := h
    exact ⟨hp, Nat.le_refl _, hq, rfl⟩
  | n + 1, p, q, xs, p', q', hp, hq, h => by
    simp only [itsM] at h
    cases e : g p q with
    | none => rw [e] at h; cases h
    | some t =>
      obtain ⟨x, p1, q1⟩ := t
      rw [e] at h
      simp only at h
      obtain ⟨h1, h2, h3⟩ := hg hp e
      cases e2 : itsM g n p1 q1 with
      | none => rw [e2] at h; cases h
      | some t =>
        obtain ⟨ys, p2, q2⟩ := t
        rw [e2] at h
        simp only [Option.some.injEq, Prod.mk.injEq] at h
        obtain ⟨rfl, rfl, rfl⟩ := h
        obtain ⟨k1, k2, k3, k4⟩ := itsM_le hg n h1 h3 e2
        exact ⟨k1, by omega, k3, by simp [k4]⟩
theorem decM_le (l : List UInt8) : ∀ (n : Nat) {p q : Nat} {v : Vl} {p' q' : Nat}, p ≤ l.length → decM l n p q = some (v, p', q') → p' ≤ l.length ∧ q < q' ∧ q' ≤ 4096
  | 0, _, _, _, _, _, _, h => by simp [decM] at h
  | n + 1, p, q, v, p', q', hp, h => by
    simp only [decM] at h
    split at h
    · cases h
    · rename_i hq
      cases e : headM (seen l p) with
      | none => rw [e] at h; cases h
      | some t =>
        obtain ⟨u, k, r⟩ := t
        rw [e] at h
        simp only at h
        have hsz : (seen l p).length ≤ 139 ∧ (seen l p).length ≤ l.length - p := by unfold seen; simp; omega
        have ho := headM_ok e hsz.1
        cases e2 : itsM (decM l n) k (p + ((seen l p).length - r.length)) (q + 1) with
        | none => rw [e2] at h; cases h
        | some t =>
          obtain ⟨ys, p2, q2⟩ := t
          rw [e2] at h
          simp only [Option.some.injEq, Prod.mk.injEq] at h
          obtain ⟨rfl, rfl, rfl⟩ := h
          obtain ⟨k1, k2, k3, k4⟩ := itsM_le (l := l) (fun hp h => decM_le l n hp h) k (by omega) (by omega) e2
          exact ⟨k1, by omega, k3⟩
end Go.Proofs.YthmhcpghfbifiaaGreatDoor
