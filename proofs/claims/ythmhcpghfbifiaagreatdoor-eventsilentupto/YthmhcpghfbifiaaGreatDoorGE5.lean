/-
  DERIVED: THE SHELF's CONTRACTS AT THIS DUMP, IN PLAIN WORDS (tools/lay-plain.mjs out of 'TryzSort.lean', which tools/lay-shelf.mjs wrote): THE SAME DECLARATIONS UNDER THE SAME NAMES: 'import', 'namespace', 'open', 'def', 'theorem' AND NOTHING ELSE: no command of the shelf's: FOR A HAND-IN. Each laying: the table of numbers ('.._ren') and one theorem, a field a fact of the dump's own or the kernel's comparison; each contract: ONE APPLICATION.
-/
import Derived.Shelf.SlGeneric
import Derived.Shelf.SlLaysF0
import Derived.Shelf.SlSortCmp.WholeK
import Derived.Ground.SlsfProg
import Derived.Test.YthmhcpghfbifiaaGreatDoorProg
import Derived.Test.YthmhcpghfbifiaaGreatDoorGTot
namespace Go.Proofs
open Go.Shelf
def Tryz.sortV_ren : Go.Shelf.Ren := ⟨fun | 6 => 146 | 15 => 171 | 14 => 170 | 28 => 184 | 29 => 155 | 20 => 176 | 21 => 177 | 22 => 178 | 23 => 179 | 24 => 180 | 25 => 181 | 26 => 182 | 27 => 183 | 46 => 186 | 47 => 187 | 48 => 188 | 49 => 189 | 50 => 190 | 57 => 192 | n => n, fun | 22 => 44 | 24 => 46 | 25 => 100 | 3 => 3 | 39 => 110 | 0 => 0 | 53 => 211 | 55 => 79 | 4 => 4 | 46 => 226 | 45 => 225 | 50 => 230 | 5 => 5 | 9 => 9 | 66 => 236 | 70 => 102 | 76 => 241 | 77 => 242 | n => n, fun | n => n⟩
theorem Tryz.sortV : Go.Proofs.SlLaysF0.n6 Tryz.prog Tryz.sortV_ren := {
  mixed := by kernel_rfl
  f6 := ⟨Tryz.f146.name, by decide, Tryz.func146.trans (congrArg some (by kernel_rfl))⟩
  f14 := ⟨Tryz.f170.name, by decide, Tryz.func170.trans (congrArg some (by kernel_rfl))⟩
  f15 := Tryz.func171.trans (congrArg some (by kernel_rfl))
  f20 := ⟨Tryz.f176.name, by decide, Tryz.func176.trans (congrArg some (by kernel_rfl))⟩
  f21 := ⟨Tryz.f177.name, by decide, Tryz.func177.trans (congrArg some (by kernel_rfl))⟩
  f22 := ⟨Tryz.f178.name, by decide, Tryz.func178.trans (congrArg some (by kernel_rfl))⟩
  f23 := ⟨Tryz.f179.name, by decide, Tryz.func179.trans (congrArg some (by kernel_rfl))⟩
  f24 := ⟨Tryz.f180.name, by decide, Tryz.func180.trans (congrArg some (by kernel_rfl))⟩
  f25 := ⟨Tryz.f181.name, by decide, Tryz.func181.trans (congrArg some (by kernel_rfl))⟩
  f26 := ⟨Tryz.f182.name, by decide, Tryz.func182.trans (congrArg some (by kernel_rfl))⟩
  f27 := ⟨Tryz.f183.name, by decide, Tryz.func183.trans (congrArg some (by kernel_rfl))⟩
  f28 := Tryz.func184.trans (congrArg some (by kernel_rfl))
  f29 := Tryz.func155.trans (congrArg some (by kernel_rfl))
  f46 := ⟨Tryz.f186.name, by decide, Tryz.func186.trans (congrArg some (by kernel_rfl))⟩
  f47 := Tryz.func187.trans (congrArg some (by kernel_rfl))
  f48 := Tryz.func188.trans (congrArg some (by kernel_rfl))
  f49 := ⟨Tryz.f189.name, by decide, Tryz.func189.trans (congrArg some (by kernel_rfl))⟩
  f50 := ⟨Tryz.f190.name, by decide, Tryz.func190.trans (congrArg some (by kernel_rfl))⟩
  f57 := ⟨Tryz.f192.name, by decide, Tryz.func192.trans (congrArg some (by kernel_rfl))⟩
  t0 := Tryz.underlying0
  a0 := Tryz.isAgg0
  z0 := Tryz.sizeOf0
  v0 := Tryz.zeroValue0
  t3 := Tryz.underlying3
  a3 := Tryz.isAgg3
  z3 := Tryz.sizeOf3
  v3 := Tryz.zeroValue3
  t4 := Tryz.underlying4
  a4 := Tryz.isAgg4
  z4 := Tryz.sizeOf4
  v4 := Tryz.zeroValue4
  t5 := Tryz.underlying5
  a5 := Tryz.isAgg5
  z5 := Tryz.sizeOf5
  v5 := Tryz.zeroValue5
  t9 := Tryz.underlying9
  a9 := Tryz.isAgg9
  z9 := Tryz.sizeOf9
  v9 := Tryz.zeroValue9
  t22 := Tryz.underlying44
  a22 := Tryz.isAgg44
  z22 := Tryz.sizeOf44
  v22 := Tryz.zeroValue44
  t25 := Tryz.underlying100
  a25 := Tryz.isAgg100
  z25 := Tryz.sizeOf100
  v25 := Tryz.zeroValue100
  t39 := Tryz.underlying110
  a39 := Tryz.isAgg110
  z39 := Tryz.sizeOf110
  v39 := Tryz.zeroValue110
  t45 := Tryz.underlying225
  a45 := Tryz.isAgg225
  z45 := Tryz.sizeOf225
  v45 := Tryz.zeroValue225
  t46 := Tryz.underlying226
  a46 := Tryz.isAgg226
  z46 := Tryz.sizeOf226
  v46 := Tryz.zeroValue226
  t50 := Tryz.underlying230
  a50 := Tryz.isAgg230
  z50 := Tryz.sizeOf230
  v50 := Tryz.zeroValue230
  t53 := Tryz.underlying211
  a53 := Tryz.isAgg211
  z53 := Tryz.sizeOf211
  v53 := Tryz.zeroValue211
  t55 := Tryz.underlying79
  a55 := Tryz.isAgg79
  z55 := Tryz.sizeOf79
  v55 := Tryz.zeroValue79
  t66 := Tryz.underlying236
  a66 := Tryz.isAgg236
  z66 := Tryz.sizeOf236
  v66 := Tryz.zeroValue236
  t70 := Tryz.underlying102
  a70 := Tryz.isAgg102
  z70 := Tryz.sizeOf102
  v70 := Tryz.zeroValue102
  t76 := Tryz.underlying241
  a76 := Tryz.isAgg241
  z76 := Tryz.sizeOf241
  v76 := Tryz.zeroValue241
  t77 := Tryz.underlying242
  a77 := Tryz.isAgg242
  z77 := Tryz.sizeOf242
  v77 := Tryz.zeroValue242 }
end Go.Proofs

/- A row of values, sorted by their order. -/
namespace Go.Proofs.YthmhcpghfbifiaaGreatDoor
open Go.RowKit

/-- A value, and where its items lie. -/
structure Ev (w : World) (B n : Nat) where
  v : Vl
  sl : Value
  lies : ItemsAt w B n sl v.items
  ok : v.ok
def Ev.cells {w : World} {B n : Nat} (x : Ev w B n) : List Value := [.int .i64 x.v.kind, .int .i64 x.v.int, .int .i64 x.v.im, .string x.v.text, x.sl]
def Ev.zero (w : World) (B n : Nat) : Ev w B (n + 1) := ⟨⟨0, 0, 0, ⟨#[]⟩, []⟩, .slice none 0 0, ⟨none, 0, rfl, by unfold maxLen; simp, fun j h => by simp at h⟩, ⟨Nat.zero_le _, ⟨by decide, by decide⟩, by decide, by decide⟩⟩
def Ev.cf {w : World} {B n : Nat} (x y : Ev w B n) : Int := ordV x.v y.v
theorem Ev.lt {w : World} {B n : Nat} (x y : Ev w B n) : ltOf Ev.cf x y = true ↔ ordV x.v y.v < 0 := decide_eq_true_iff
theorem Ev.nlt {w : World} {B n : Nat} (x y : Ev w B n) : ltOf Ev.cf x y = false ↔ 0 ≤ ordV x.v y.v := by
  have := Ev.lt x y
  cases h : ltOf Ev.cf x y
  · rw [h] at this
    have h1 : ¬ ordV x.v y.v < 0 := fun k => by have := this.2 k; cases this
    exact ⟨fun _ => by omega, fun _ => rfl⟩
  · have h1 := this.1 h
    exact ⟨fun k => (by cases k), fun k => (by omega)⟩
theorem Ev.swo {w : World} {B n : Nat} [Inhabited (Ev w B n)] : Sort.SWO (ltOf (Ev.cf (w := w) (B := B) (n := n))) := by
  refine ⟨fun x => ?_, fun x y z h k => ?_, fun x y z h k => ?_⟩
  · rw [Ev.nlt, ordV_self]; omega
  · rw [Ev.lt] at *
    exact ordV_trans h k
  · rw [Ev.nlt] at *
    have h1 := ordV_anti x.v y.v
    have k1 := ordV_anti y.v z.v
    have m1 := ordV_anti x.v z.v
    by_cases e : ordV x.v y.v = 0
    · rw [ordV_zero e]; exact k
    · by_cases e' : ordV y.v z.v = 0
      · rw [← ordV_zero e']; exact h
      · have := ordV_trans (a := z.v) (b := y.v) (c := x.v) (by omega) (by omega)
        omega
theorem Ev.one {w : World} {B n : Nat} (x : Ev w B n) : ∀ v ∈ x.cells, v.oneCell' = true := by
  obtain ⟨a, c, e, _⟩ := x.lies.len
  intro v hv
  simp only [Ev.cells, List.mem_cons, List.not_mem_nil, or_false] at hv
  rcases hv with rfl | rfl | rfl | rfl | rfl
  · rfl
  · rfl
  · rfl
  · rfl
  · rw [e]; rfl
/-- The row's elements lie there, cell by cell, and may be written. -/
def RowV (w : World) (blk off : Nat) (cs : List (List Value)) : Prop := ∀ j (h : j < cs.length), ∀ c, c < 5 → w.cell? ⟨blk, off + j * 5 + c, none⟩ = some (cs[j])[c]! ∧ w.frozen? ⟨blk, off + j * 5 + c, none⟩ = false
theorem sortWorld_grown {α : Type} [Inhabited α] (enc : α → List Value) (w : World) (blk off q : Nat) (d : Array α) (os : Array Obj) : w.grownBy (sortWorldK enc 5 w blk off q d os) (some blk) := by
  refine ⟨rfl, rfl, rfl, ?_, fun k hk hne => ?_⟩
  · simp [sortWorldK, Sort.grow, Sort.putRowK, Sort.putRow, Sort.mapBlock, Sort.ahead]
  · have hne' : blk ≠ k := fun e => hne (by rw [e])
    have h1 : k < (w.heap.modify blk (Sort.onCells (Sort.putCells id off (Sort.flatK enc 5 d)))).size := by simpa using hk
    simp only [sortWorldK, Sort.grow, Sort.putRowK, Sort.putRow, Sort.mapBlock, Sort.ahead]
    rw [Array.getElem?_append_left h1, Array.getElem?_modify, if_neg hne']
set_option maxRecDepth 100000 in
theorem sort_k {w : World} {B n blk off cap : Nat} (l : List (Ev w B (n + 1))) (hB : B ≤ blk) (hblk : blk < w.heap.size) (hl : l.length < 4611686018427387904) (hr : RowV w blk off (l.map Ev.cells)) :
    Calls Tryz.prog 146 #[.slice (some ⟨blk, off, none⟩) l.length cap, .func (.func 69) #[] #[]] w fun e w' =>
      e = .returned (.tuple #[]) ∧ ∃ l' : List (Ev w B (n + 1)), l'.Perm l ∧ l'.Pairwise (fun x y => ordV x.v y.v ≤ 0) ∧ RowV w' blk off (l'.map Ev.cells) ∧ w.grownBy w' (some blk) := by
  letI : Inhabited (Ev w B (n + 1)) := ⟨Ev.zero w B n⟩
  have hH : Sort.HoldsK Ev.cells 5 w blk off l.toArray := by
    intro t ht
    rw [Sort.size_flatK] at ht
    rw [Sort.get_flatK _ _ _ _ ht]
    have h1 : t / 5 < l.length := by have : l.toArray.size = l.length := by simp
                                     omega
    have := hr (t / 5) (by simpa using h1) (t % 5) (Nat.mod_lt _ (by omega))
    rw [show off + t / 5 * 5 + t % 5 = off + t by omega] at this
    simpa [getElem!_pos, h1] using this
  have eg : ∀ args w, (callFunc 69 args).run Tryz.prog w = .ok (.enter 69 args) w := enters_of Tryz.func69 (by kernel_rfl) rfl
  have hC : CmpLays Tryz.prog 69 #[] Ev.cells 5 (Ev.cf (w := w) (B := B) (n := n + 1)) blk off l.toArray.size w := by
    intro m os dk _ x y
    have g := sortWorld_grown Ev.cells w blk off m dk os
    have hk : ∀ b o, b < B → (sortWorldK Ev.cells 5 w blk off m dk os).cell? ⟨b, o, none⟩ = w.cell? ⟨b, o, none⟩ := fun b o hb => World.cell?_of_block (g.block b (by omega) (by intro e; cases e; omega))
    exact orderG_k (n + 1) x.v y.v _ B (n + 1) x.sl y.sl (by have := g.size; omega) (x.lies.kept hk) (y.lies.kept hk)
  have H := AnyQ.slices_SortFunc Tryz.sortV 5 Tryz.isAgg46 Tryz.sizeOf46 Ev.cells (fun _ => rfl) Ev.one Ev.cf Ev.swo 69 #[] blk off cap l.toArray w eg hC hH hblk (by simpa using hl)
  rw [List.size_toArray] at H
  refine Calls.mono H ?_
  rintro e w' ⟨rfl, d', q, os, hp, hs, rfl⟩
  have s1 : d'.size = l.length := by have := hp.1; simpa using this
  refine ⟨rfl, d'.toList, ?_, ?_, ?_, sortWorld_grown _ _ _ _ _ _ _⟩
  · have h1 := hp.2.2
    have e1 : d'.extract 0 l.length = d' := by rw [← s1]; exact Array.extract_size
    have e2 : l.toArray.extract 0 l.length = l.toArray := by exact Array.extract_size (xs := l.toArray)
    rw [e1, e2] at h1
    exact h1
  · rw [List.pairwise_iff_getElem]
    intro i j hi hj hij
    have h1 : i < d'.size := by simpa using hi
    have h2 : j < d'.size := by simpa using hj
    have := hs i j (Nat.zero_le _) hij (by omega)
    rw [getElem!_pos d' i h1, getElem!_pos d' j h2, Ev.nlt] at this
    have h3 := ordV_anti d'[j].v d'[i].v
    rw [Array.getElem_toList, Array.getElem_toList]
    omega
  · have hH' : Sort.HoldsK Ev.cells 5 (sortWorldK Ev.cells 5 w blk off q d' os) blk off d' := by
      unfold sortWorldK
      refine Sort.holdsK_grow _ _ _ _ _ _ _ ?_ (Sort.holdsK_putRowK _ _ _ _ _ _ _ (Sort.holdsK_ahead _ _ _ _ _ _ _ hH) (by simpa using s1))
      simpa [Sort.putRowK, Sort.putRow, Sort.mapBlock, Sort.ahead] using hblk
    intro j hj c hc
    have h1 : j < d'.size := by simpa using hj
    have := hH'.cell h1 hc
    rw [getElem!_pos d' j h1] at this
    simpa using this
end Go.Proofs.YthmhcpghfbifiaaGreatDoor
