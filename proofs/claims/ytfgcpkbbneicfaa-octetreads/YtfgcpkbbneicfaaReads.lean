/- What OctetReads does, script by script. -/
import Derived.Test.YtfgcpkbbneicfaaRefMore
namespace Go.Proofs.Ytfgcpkbbneicfaa
open Go.RowKit

/-- The two readers side by side: the program's has l left, the document's is at a place of L. -/
def MS (w wr : World) (rb pb : Nat) (L : List UInt8) (at_ : Nat) (l : List UInt8) : Prop :=
  ∃ lo1 lo2, w.heap.size ≤ lo1 ∧ lo1 ≤ rb ∧ rb < lo2 ∧ lo2 ≤ pb ∧ pb < wr.heap.size ∧ Rd wr rb lo1 l ∧ Rf wr pb lo2 L at_ ∧ Below w.heap.size w wr

theorem MS.left {w wr w' : World} {rb pb lo1 : Nat} {L l' : List UInt8} {at_ lo2 : Nat} (a1 : w.heap.size ≤ lo1) (a2 : lo1 ≤ rb) (a3 : rb < lo2) (a4 : lo2 ≤ pb) (a5 : pb < wr.heap.size) (a7 : Rf wr pb lo2 L at_) (a8 : Below w.heap.size w wr)
    (hr : Rd w' rb lo1 l') (hg : wr.grownBy w' (some rb)) : MS w w' rb pb L at_ l' := by
  have := hg.size
  have := a8.size
  exact ⟨lo1, lo2, a1, a2, a3, a4, by omega, hr, a7.kept (fun k hk hk' => hg.block k (by omega) (fun e => by cases e; omega)) a4, below_grown a8 hg (by omega) (by omega)⟩

theorem MS.right {w wr w' : World} {rb pb lo1 : Nat} {L l : List UInt8} {at_ lo2 : Nat} (a1 : w.heap.size ≤ lo1) (a2 : lo1 ≤ rb) (a3 : rb < lo2) (a4 : lo2 ≤ pb) (a5 : pb < wr.heap.size) (a6 : Rd wr rb lo1 l) (a8 : Below w.heap.size w wr)
    (hr : Rf w' pb lo2 L at_) (hg : wr.grownBy w' (some pb)) : MS w w' rb pb L at_ l := by
  have := hg.size
  have := a8.size
  exact ⟨lo1, lo2, a1, a2, a3, a4, by omega, a6.kept (fun k hk hk' => hg.block k (by omega) (fun e => by cases e; omega)) a2, hr, below_grown a8 hg (by omega) (by omega)⟩

section
variable {w wr : World} {rb pb : Nat} {L l : List UInt8} {at_ : Nat}

theorem mU (h : MS w wr rb pb L at_ l) : Calls Try.prog 22 #[.pointer (some ⟨rb, 0, none⟩)] wr fun e w' =>
    e = .returned (.tuple #[.int .u64 (front l).1, .int .i64 (front l).2.2]) ∧ MS w w' rb pb L at_ (l.drop (front l).2.1) := by
  obtain ⟨lo1, lo2, a1, a2, a3, a4, a5, a6, a7, a8⟩ := h
  exact (rUvarint wr rb lo1 l a6).mono fun e w' ⟨h1, h2, h3⟩ => ⟨h1, MS.left a1 a2 a3 a4 a5 a7 a8 h2 h3⟩
theorem mV (h : MS w wr rb pb L at_ l) : Calls Try.prog 24 #[.pointer (some ⟨rb, 0, none⟩)] wr fun e w' =>
    e = .returned (.tuple #[.int .i64 (unz (front l).1), .int .i64 (front l).2.2]) ∧ MS w w' rb pb L at_ (l.drop (front l).2.1) := by
  obtain ⟨lo1, lo2, a1, a2, a3, a4, a5, a6, a7, a8⟩ := h
  exact (rVarint wr rb lo1 l a6).mono fun e w' ⟨h1, h2, h3⟩ => ⟨h1, MS.left a1 a2 a3 a4 a5 a7 a8 h2 h3⟩
theorem mT (h : MS w wr rb pb L at_ l) : Calls Try.prog 26 #[.pointer (some ⟨rb, 0, none⟩)] wr fun e w' =>
    e = .returned (.tuple #[.string (bytesOf (textOf l)), .int .i64 (textErr l)]) ∧ MS w w' rb pb L at_ (textRest l) := by
  obtain ⟨lo1, lo2, a1, a2, a3, a4, a5, a6, a7, a8⟩ := h
  exact (rText wr rb lo1 l a6).mono fun e w' ⟨h1, h2, h3⟩ => ⟨h1, MS.left a1 a2 a3 a4 a5 a7 a8 h2 h3⟩
theorem mU8n (h : MS w wr rb pb L at_ []) : Calls Try.prog 20 #[.pointer (some ⟨rb, 0, none⟩)] wr fun e w' =>
    e = .returned (.tuple #[.int .u8 0, .int .i64 10]) ∧ MS w w' rb pb L at_ [] := by
  have h' := h
  obtain ⟨lo1, lo2, a1, a2, a3, a4, a5, a6, a7, a8⟩ := h
  exact (rU8_none wr rb lo1 a6).mono fun e w' ⟨h1, h2⟩ => ⟨h1, by rw [h2]; exact h'⟩
theorem mU8s {x : UInt8} (h : MS w wr rb pb L at_ (x :: l)) : Calls Try.prog 20 #[.pointer (some ⟨rb, 0, none⟩)] wr fun e w' =>
    e = .returned (.tuple #[.int .u8 x.toNat, .int .i64 0]) ∧ MS w w' rb pb L at_ l := by
  obtain ⟨lo1, lo2, a1, a2, a3, a4, a5, a6, a7, a8⟩ := h
  exact (rU8_some wr rb lo1 x l a6).mono fun e w' ⟨h1, h2, h3⟩ => ⟨h1, MS.left a1 a2 a3 a4 a5 a7 a8 h2 h3⟩
theorem mL (h : MS w wr rb pb L at_ l) (q : Nat) (hq : l.length = q) : Calls Try.prog 30 #[.pointer (some ⟨rb, 0, none⟩)] wr fun e w' =>
    e = .returned (.int .i64 q) ∧ MS w w' rb pb L at_ l := by
  subst hq
  have h' := h
  obtain ⟨lo1, lo2, a1, a2, a3, a4, a5, a6, a7, a8⟩ := h
  exact (rLeft wr rb lo1 l a6).mono fun e w' ⟨h1, h2⟩ => ⟨h1, by rw [h2]; exact h'⟩
theorem mE (h : MS w wr rb pb L at_ l) (q : Int) (hq : (if l.length = 0 then (0 : Int) else 11) = q) : Calls Try.prog 28 #[.pointer (some ⟨rb, 0, none⟩)] wr fun e w' =>
    e = .returned (.int .i64 q) ∧ MS w w' rb pb L at_ l := by
  subst hq
  have h' := h
  obtain ⟨lo1, lo2, a1, a2, a3, a4, a5, a6, a7, a8⟩ := h
  exact (rEnd wr rb lo1 l a6).mono fun e w' ⟨h1, h2⟩ => ⟨h1, by rw [h2]; exact h'⟩

theorem nU (h : MS w wr rb pb L at_ l) {l0 : List UInt8} (hl : L.drop at_ = l0) : Calls Try.prog 23 #[.pointer (some ⟨pb, 0, none⟩)] wr fun e w' =>
    e = .returned (.tuple #[.int .u64 (front l0).1, .int .i64 (front l0).2.2]) ∧ MS w w' rb pb L (at_ + (front l0).2.1) l := by
  subst hl
  obtain ⟨lo1, lo2, a1, a2, a3, a4, a5, a6, a7, a8⟩ := h
  exact (fUvarint wr pb lo2 L at_ a7).mono fun e w' ⟨h1, h2, h3⟩ => ⟨h1, MS.right a1 a2 a3 a4 a5 a6 a8 h2 h3⟩
theorem nV (h : MS w wr rb pb L at_ l) {l0 : List UInt8} (hl : L.drop at_ = l0) : Calls Try.prog 25 #[.pointer (some ⟨pb, 0, none⟩)] wr fun e w' =>
    e = .returned (.tuple #[.int .i64 (unz (front l0).1), .int .i64 (front l0).2.2]) ∧ MS w w' rb pb L (at_ + (front l0).2.1) l := by
  subst hl
  obtain ⟨lo1, lo2, a1, a2, a3, a4, a5, a6, a7, a8⟩ := h
  exact (fVarint wr pb lo2 L at_ a7).mono fun e w' ⟨h1, h2, h3⟩ => ⟨h1, MS.right a1 a2 a3 a4 a5 a6 a8 h2 h3⟩
theorem nT (h : MS w wr rb pb L at_ l) {l0 : List UInt8} (hl : L.drop at_ = l0) : Calls Try.prog 27 #[.pointer (some ⟨pb, 0, none⟩)] wr fun e w' =>
    e = .returned (.tuple #[.string (bytesOf (textOf l0)), .int .i64 (textErr l0)]) ∧ MS w w' rb pb L (at_ + textSize l0) l := by
  subst hl
  obtain ⟨lo1, lo2, a1, a2, a3, a4, a5, a6, a7, a8⟩ := h
  exact (fText wr pb lo2 L at_ a7).mono fun e w' ⟨h1, h2, h3⟩ => ⟨h1, MS.right a1 a2 a3 a4 a5 a6 a8 h2 h3⟩
theorem nU8n (h : MS w wr rb pb L at_ l) (hl : L.drop at_ = []) : Calls Try.prog 21 #[.pointer (some ⟨pb, 0, none⟩)] wr fun e w' =>
    e = .returned (.tuple #[.int .u8 0, .int .i64 10]) ∧ MS w w' rb pb L at_ l := by
  obtain ⟨lo1, lo2, a1, a2, a3, a4, a5, a6, a7, a8⟩ := h
  have e : at_ = L.length := by
    have h1 := a7.1
    have h2 : L.length ≤ at_ := List.drop_eq_nil_iff.1 hl
    omega
  subst e
  exact (fU8_none wr pb lo2 L a7).mono fun e w' ⟨h1, h2, h3⟩ => ⟨h1, MS.right a1 a2 a3 a4 a5 a6 a8 h2 h3⟩
theorem nU8s {x : UInt8} {l0 : List UInt8} (h : MS w wr rb pb L at_ l) (hl : L.drop at_ = x :: l0) : Calls Try.prog 21 #[.pointer (some ⟨pb, 0, none⟩)] wr fun e w' =>
    e = .returned (.tuple #[.int .u8 x.toNat, .int .i64 0]) ∧ MS w w' rb pb L (at_ + 1) l := by
  obtain ⟨lo1, lo2, a1, a2, a3, a4, a5, a6, a7, a8⟩ := h
  have hlt : at_ < L.length := by
    rcases Nat.lt_or_ge at_ L.length with h | h
    · exact h
    · rw [List.drop_eq_nil_iff.2 h] at hl; cases hl
  have e : L[at_] = x := by
    rw [List.drop_eq_getElem_cons hlt] at hl
    exact (List.cons.inj hl).1
  have hh := fU8_some wr pb lo2 L at_ a7 hlt
  rw [e] at hh
  exact hh.mono fun e w' ⟨h1, h2, h3⟩ => ⟨h1, MS.right a1 a2 a3 a4 a5 a6 a8 h2 h3⟩
theorem nL (h : MS w wr rb pb L at_ l) (q : Nat) (hq : (L.drop at_).length = q) : Calls Try.prog 29 #[.pointer (some ⟨pb, 0, none⟩)] wr fun e w' =>
    e = .returned (.int .i64 q) ∧ MS w w' rb pb L at_ l := by
  rw [List.length_drop] at hq
  subst hq
  obtain ⟨lo1, lo2, a1, a2, a3, a4, a5, a6, a7, a8⟩ := h
  refine (fLeft wr pb lo2 L at_ a7).mono fun e w' ⟨h1, n, h2⟩ => ⟨h1, ?_⟩
  subst h2
  exact MS.right a1 a2 a3 a4 a5 a6 a8 a7 (grownBy_drewN _ _ _)
end

theorem textRest_drop (l : List UInt8) : textRest l = l.drop (textSize l) := by
  unfold textRest textSize
  split <;> simp

/-- Between two calls of the script: the two stand at the same place. -/
def RS (w wr : World) (rb pb : Nat) (L : List UInt8) : Prop := ∃ at_, MS w wr rb pb L at_ (L.drop at_)

theorem MS.rs {w wr : World} {rb pb : Nat} {L l : List UInt8} {at_ : Nat} (h : MS w wr rb pb L at_ l) (hl : L.drop at_ = l) : RS w wr rb pb L := ⟨at_, by rw [hl]; exact h⟩

theorem rs_mk {w w1 w2 w3 w5 : World} {rb g cap : Nat} {L : List UInt8} (b1 : Below w.heap.size w w1)
    (S2 : w1.heap.size ≤ rb ∧ rb + 1 = w2.heap.size ∧ Rd w2 rb w1.heap.size L ∧ Below w1.heap.size w1 w2)
    (S3 : w3.ownsRow w2.heap.size 5 1 (.slice (some ⟨g, 0, none⟩) L.length cap) L.length (cellsOf L) ∧ Below w2.heap.size w2 w3)
    (S5 : Below (w3.heap.size + 1) (w3.alloc (.cells #[.slice (some ⟨g, 0, none⟩) L.length cap, .int .i64 0] 38)) w5) : RS w w5 rb w3.heap.size L := by
  obtain ⟨h1, h2, h3, h4⟩ := S2
  obtain ⟨h5, h6⟩ := S3
  have s1 := b1.size
  have s2 := h4.size
  have s3 := h6.size
  have s5 := S5.size
  simp only [World.size_alloc] at s5
  have hin := (ownsRow_bytes h5).2
  have hold : ∀ k, k < w3.heap.size → w5.heap[k]? = w3.heap[k]? := fun k hk => (S5.block k (by omega)).trans (Below.heap_alloc w3 _ k hk)
  have hnew : w5.heap[w3.heap.size]? = some (.cells #[.slice (some ⟨g, 0, none⟩) L.length cap, .int .i64 0] 38) := (S5.block _ (by omega)).trans (heap_alloc_new w3 _)
  refine ⟨0, w1.heap.size, w2.heap.size, by omega, h1, by omega, by omega, by omega, ?_, ⟨Nat.zero_le _, ?_, ?_, .slice (some ⟨g, 0, none⟩) L.length cap, ?_, ?_⟩, ?_⟩
  · rw [List.drop_zero]
    exact h3.kept (fun k hk hk' => (hold k (by omega)).trans (h6.block k (by omega))) h1
  · simp [World.frozen?, hnew]
  · simp [World.cell?, hnew]
  · simp [World.cell?, hnew]
  · exact hin.mono (fun b o hb hb' => World.cell?_of_block (w := w3) (hold b hb')) (Nat.le_refl _) (Nat.le_refl _)
  · exact (((b1.trans (h4.mono s1)).trans (h6.mono (by omega))).alloc (by omega) _).trans (S5.mono (by omega))
end Go.Proofs.Ytfgcpkbbneicfaa
