/-
  DERIVED: THE SHELF's CONTRACTS AT THIS DUMP, IN PLAIN WORDS (tools/lay-plain.mjs out of 'TryzSort.lean', which tools/lay-shelf.mjs wrote): THE SAME DECLARATIONS UNDER THE SAME NAMES: 'import', 'namespace', 'open', 'def', 'theorem' AND NOTHING ELSE: no command of the shelf's: FOR A HAND-IN. Each laying: the table of numbers ('.._ren') and one theorem, a field a fact of the dump's own or the kernel's comparison; each contract: ONE APPLICATION.
-/
import Derived.Shelf.SlGeneric
import Derived.Shelf.SlLaysF0
import Derived.Shelf.SlSortCmp.WholeK
import Derived.Ground.SlsfProg
import Derived.Test.YtcedpdneanjbkaaGreatDoorProg
import Derived.Test.YtcedpdneanjbkaaGreatDoorGTot
namespace Go.Proofs
open Go.Shelf
def Tryz.sortV_ren : Go.Shelf.Ren := ⟨fun | 6 => 194 | 15 => 214 | 14 => 213 | 28 => 226 | 29 => 202 | 20 => 218 | 21 => 219 | 22 => 220 | 23 => 221 | 24 => 222 | 25 => 223 | 26 => 224 | 27 => 225 | 46 => 228 | 47 => 229 | 48 => 230 | 49 => 231 | 50 => 232 | 57 => 234 | n => n, fun | 22 => 44 | 24 => 46 | 25 => 110 | 3 => 3 | 39 => 111 | 0 => 0 | 53 => 245 | 55 => 73 | 4 => 4 | 46 => 257 | 45 => 256 | 50 => 261 | 5 => 5 | 9 => 9 | 66 => 267 | 70 => 128 | 76 => 272 | 77 => 273 | n => n, fun | n => n⟩
theorem Tryz.sortV : Go.Proofs.SlLaysF0.n6 Tryz.prog Tryz.sortV_ren := {
  mixed := by kernel_rfl
  f6 := ⟨Tryz.f194.name, by decide, Tryz.func194.trans (congrArg some (by kernel_rfl))⟩
  f14 := ⟨Tryz.f213.name, by decide, Tryz.func213.trans (congrArg some (by kernel_rfl))⟩
  f15 := Tryz.func214.trans (congrArg some (by kernel_rfl))
  f20 := ⟨Tryz.f218.name, by decide, Tryz.func218.trans (congrArg some (by kernel_rfl))⟩
  f21 := ⟨Tryz.f219.name, by decide, Tryz.func219.trans (congrArg some (by kernel_rfl))⟩
  f22 := ⟨Tryz.f220.name, by decide, Tryz.func220.trans (congrArg some (by kernel_rfl))⟩
  f23 := ⟨Tryz.f221.name, by decide, Tryz.func221.trans (congrArg some (by kernel_rfl))⟩
  f24 := ⟨Tryz.f222.name, by decide, Tryz.func222.trans (congrArg some (by kernel_rfl))⟩
  f25 := ⟨Tryz.f223.name, by decide, Tryz.func223.trans (congrArg some (by kernel_rfl))⟩
  f26 := ⟨Tryz.f224.name, by decide, Tryz.func224.trans (congrArg some (by kernel_rfl))⟩
  f27 := ⟨Tryz.f225.name, by decide, Tryz.func225.trans (congrArg some (by kernel_rfl))⟩
  f28 := Tryz.func226.trans (congrArg some (by kernel_rfl))
  f29 := Tryz.func202.trans (congrArg some (by kernel_rfl))
  f46 := ⟨Tryz.f228.name, by decide, Tryz.func228.trans (congrArg some (by kernel_rfl))⟩
  f47 := Tryz.func229.trans (congrArg some (by kernel_rfl))
  f48 := Tryz.func230.trans (congrArg some (by kernel_rfl))
  f49 := ⟨Tryz.f231.name, by decide, Tryz.func231.trans (congrArg some (by kernel_rfl))⟩
  f50 := ⟨Tryz.f232.name, by decide, Tryz.func232.trans (congrArg some (by kernel_rfl))⟩
  f57 := ⟨Tryz.f234.name, by decide, Tryz.func234.trans (congrArg some (by kernel_rfl))⟩
  t0 := Tryz.underlying0
  a0 := Tryz.isAgg0
  z0 := Tryz.sizeOf0
  v0 := Tryz.zeroValue0
  t3 := Tryz.underlying3
  a3 := Tryz.isAgg3
  z3 := Tryz.sizeOf3
  v3 := Tryz.zeroValue3
  t4 := Tryz.underlying4
  a4 := Tryz.isAgg4
  z4 := Tryz.sizeOf4
  v4 := Tryz.zeroValue4
  t5 := Tryz.underlying5
  a5 := Tryz.isAgg5
  z5 := Tryz.sizeOf5
  v5 := Tryz.zeroValue5
  t9 := Tryz.underlying9
  a9 := Tryz.isAgg9
  z9 := Tryz.sizeOf9
  v9 := Tryz.zeroValue9
  t22 := Tryz.underlying44
  a22 := Tryz.isAgg44
  z22 := Tryz.sizeOf44
  v22 := Tryz.zeroValue44
  t25 := Tryz.underlying110
  a25 := Tryz.isAgg110
  z25 := Tryz.sizeOf110
  v25 := Tryz.zeroValue110
  t39 := Tryz.underlying111
  a39 := Tryz.isAgg111
  z39 := Tryz.sizeOf111
  v39 := Tryz.zeroValue111
  t45 := Tryz.underlying256
  a45 := Tryz.isAgg256
  z45 := Tryz.sizeOf256
  v45 := Tryz.zeroValue256
  t46 := Tryz.underlying257
  a46 := Tryz.isAgg257
  z46 := Tryz.sizeOf257
  v46 := Tryz.zeroValue257
  t50 := Tryz.underlying261
  a50 := Tryz.isAgg261
  z50 := Tryz.sizeOf261
  v50 := Tryz.zeroValue261
  t53 := Tryz.underlying245
  a53 := Tryz.isAgg245
  z53 := Tryz.sizeOf245
  v53 := Tryz.zeroValue245
  t55 := Tryz.underlying73
  a55 := Tryz.isAgg73
  z55 := Tryz.sizeOf73
  v55 := Tryz.zeroValue73
  t66 := Tryz.underlying267
  a66 := Tryz.isAgg267
  z66 := Tryz.sizeOf267
  v66 := Tryz.zeroValue267
  t70 := Tryz.underlying128
  a70 := Tryz.isAgg128
  z70 := Tryz.sizeOf128
  v70 := Tryz.zeroValue128
  t76 := Tryz.underlying272
  a76 := Tryz.isAgg272
  z76 := Tryz.sizeOf272
  v76 := Tryz.zeroValue272
  t77 := Tryz.underlying273
  a77 := Tryz.isAgg273
  z77 := Tryz.sizeOf273
  v77 := Tryz.zeroValue273 }
end Go.Proofs

/- A row of values, sorted by their order. -/
namespace Go.Proofs.YtcedpdneanjbkaaGreatDoor
open Go.RowKit

/-- A value, and where its items lie. -/
structure Ev (w : World) (B n : Nat) where
  v : Vl
  sl : Value
  lies : ItemsAt w B n sl v.items
  ok : v.ok
def Ev.cells {w : World} {B n : Nat} (x : Ev w B n) : List Value := [.int .i64 x.v.kind, .int .i64 x.v.int, .int .i64 x.v.im, .string x.v.text, x.sl]
def Ev.zero (w : World) (B n : Nat) : Ev w B (n + 1) := ⟨⟨0, 0, 0, ⟨#[]⟩, []⟩, .slice none 0 0, ⟨none, 0, rfl, by unfold maxLen; simp, fun j h => by simp at h⟩, ⟨Nat.zero_le _, ⟨by decide, by decide⟩, by decide, by decide⟩⟩
def Ev.cf {w : World} {B n : Nat} (x y : Ev w B n) : Int := ordV x.v y.v
theorem Ev.lt {w : World} {B n : Nat} (x y : Ev w B n) : ltOf Ev.cf x y = true ↔ ordV x.v y.v < 0 := decide_eq_true_iff
theorem Ev.nlt {w : World} {B n : Nat} (x y : Ev w B n) : ltOf Ev.cf x y = false ↔ 0 ≤ ordV x.v y.v := by
  have := Ev.lt x y
  cases h : ltOf Ev.cf x y
  · rw [h] at this
    have h1 : ¬ ordV x.v y.v < 0 := fun k => by have := this.2 k; cases this
    exact ⟨fun _ => by omega, fun _ => rfl⟩
  · have h1 := this.1 h
    exact ⟨fun k => (by cases k), fun k => (by omega)⟩
theorem Ev.swo {w : World} {B n : Nat} [Inhabited (Ev w B n)] : Sort.SWO (ltOf (Ev.cf (w := w) (B := B) (n := n))) := by
  refine ⟨fun x => ?_, fun x y z h k => ?_, fun x y z h k => ?_⟩
  · rw [Ev.nlt, ordV_self]; omega
  · rw [Ev.lt] at *
    exact ordV_trans h k
  · rw [Ev.nlt] at *
    have h1 := ordV_anti x.v y.v
    have k1 := ordV_anti y.v z.v
    have m1 := ordV_anti x.v z.v
    by_cases e : ordV x.v y.v = 0
    · rw [ordV_zero e]; exact k
    · by_cases e' : ordV y.v z.v = 0
      · rw [← ordV_zero e']; exact h
      · have := ordV_trans (a := z.v) (b := y.v) (c := x.v) (by omega) (by omega)
        omega
theorem Ev.one {w : World} {B n : Nat} (x : Ev w B n) : ∀ v ∈ x.cells, v.oneCell' = true := by
  obtain ⟨a, c, e, _⟩ := x.lies.len
  intro v hv
  simp only [Ev.cells, List.mem_cons, List.not_mem_nil, or_false] at hv
  rcases hv with rfl | rfl | rfl | rfl | rfl
  · rfl
  · rfl
  · rfl
  · rfl
  · rw [e]; rfl
/-- The row's elements lie there, cell by cell, and may be written. -/
def RowV (w : World) (blk off : Nat) (cs : List (List Value)) : Prop := ∀ j (h : j < cs.length), ∀ c, c < 5 → w.cell? ⟨blk, off + j * 5 + c, none⟩ = some (cs[j])[c]! ∧ w.frozen? ⟨blk, off + j * 5 + c, none⟩ = false
theorem sortWorld_grown {α : Type} [Inhabited α] (enc : α → List Value) (w : World) (blk off q : Nat) (d : Array α) (os : Array Obj) : w.grownBy (sortWorldK enc 5 w blk off q d os) (some blk) := by
  refine ⟨rfl, rfl, rfl, ?_, fun k hk hne => ?_⟩
  · simp [sortWorldK, Sort.grow, Sort.putRowK, Sort.putRow, Sort.mapBlock, Sort.ahead]
  · have hne' : blk ≠ k := fun e => hne (by rw [e])
    have h1 : k < (w.heap.modify blk (Sort.onCells (Sort.putCells id off (Sort.flatK enc 5 d)))).size := by simpa using hk
    simp only [sortWorldK, Sort.grow, Sort.putRowK, Sort.putRow, Sort.mapBlock, Sort.ahead]
    rw [Array.getElem?_append_left h1, Array.getElem?_modify, if_neg hne']
set_option maxRecDepth 100000 in
theorem sort_k {w : World} {B n blk off cap : Nat} (l : List (Ev w B (n + 1))) (hB : B ≤ blk) (hblk : blk < w.heap.size) (hl : l.length < 4611686018427387904) (hr : RowV w blk off (l.map Ev.cells)) :
    Calls Tryz.prog 194 #[.slice (some ⟨blk, off, none⟩) l.length cap, .func (.func 109) #[] #[]] w fun e w' =>
      e = .returned (.tuple #[]) ∧ ∃ l' : List (Ev w B (n + 1)), l'.Perm l ∧ l'.Pairwise (fun x y => ordV x.v y.v ≤ 0) ∧ RowV w' blk off (l'.map Ev.cells) ∧ w.grownBy w' (some blk) := by
  letI : Inhabited (Ev w B (n + 1)) := ⟨Ev.zero w B n⟩
  have hH : Sort.HoldsK Ev.cells 5 w blk off l.toArray := by
    intro t ht
    rw [Sort.size_flatK] at ht
    rw [Sort.get_flatK _ _ _ _ ht]
    have h1 : t / 5 < l.length := by have : l.toArray.size = l.length := by simp
                                     omega
    have := hr (t / 5) (by simpa using h1) (t % 5) (Nat.mod_lt _ (by omega))
    rw [show off + t / 5 * 5 + t % 5 = off + t by omega] at this
    simpa [getElem!_pos, h1] using this
  have eg : ∀ args w, (callFunc 109 args).run Tryz.prog w = .ok (.enter 109 args) w := enters_of Tryz.func109 (by kernel_rfl) rfl
  have hC : CmpLays Tryz.prog 109 #[] Ev.cells 5 (Ev.cf (w := w) (B := B) (n := n + 1)) blk off l.toArray.size w := by
    intro m os dk _ x y
    have g := sortWorld_grown Ev.cells w blk off m dk os
    have hk : ∀ b o, b < B → (sortWorldK Ev.cells 5 w blk off m dk os).cell? ⟨b, o, none⟩ = w.cell? ⟨b, o, none⟩ := fun b o hb => World.cell?_of_block (g.block b (by omega) (by intro e; cases e; omega))
    exact orderG_k (n + 1) x.v y.v _ B (n + 1) x.sl y.sl (by have := g.size; omega) (x.lies.kept hk) (y.lies.kept hk)
  have H := AnyQ.slices_SortFunc Tryz.sortV 5 Tryz.isAgg46 Tryz.sizeOf46 Ev.cells (fun _ => rfl) Ev.one Ev.cf Ev.swo 109 #[] blk off cap l.toArray w eg hC hH hblk (by simpa using hl)
  rw [List.size_toArray] at H
  refine Calls.mono H ?_
  rintro e w' ⟨rfl, d', q, os, hp, hs, rfl⟩
  have s1 : d'.size = l.length := by have := hp.1; simpa using this
  refine ⟨rfl, d'.toList, ?_, ?_, ?_, sortWorld_grown _ _ _ _ _ _ _⟩
  · have h1 := hp.2.2
    have e1 : d'.extract 0 l.length = d' := by rw [← s1]; exact Array.extract_size
    have e2 : l.toArray.extract 0 l.length = l.toArray := by exact Array.extract_size (xs := l.toArray)
    rw [e1, e2] at h1
    exact h1
  · rw [List.pairwise_iff_getElem]
    intro i j hi hj hij
    have h1 : i < d'.size := by simpa using hi
    have h2 : j < d'.size := by simpa using hj
    have := hs i j (Nat.zero_le _) hij (by omega)
    rw [getElem!_pos d' i h1, getElem!_pos d' j h2, Ev.nlt] at this
    have h3 := ordV_anti d'[j].v d'[i].v
    rw [Array.getElem_toList, Array.getElem_toList]
    omega
  · have hH' : Sort.HoldsK Ev.cells 5 (sortWorldK Ev.cells 5 w blk off q d' os) blk off d' := by
      unfold sortWorldK
      refine Sort.holdsK_grow _ _ _ _ _ _ _ ?_ (Sort.holdsK_putRowK _ _ _ _ _ _ _ (Sort.holdsK_ahead _ _ _ _ _ _ _ hH) (by simpa using s1))
      simpa [Sort.putRowK, Sort.putRow, Sort.mapBlock, Sort.ahead] using hblk
    intro j hj c hc
    have h1 : j < d'.size := by simpa using hj
    have := hH'.cell h1 hc
    rw [getElem!_pos d' j h1] at this
    simpa using this
end Go.Proofs.YtcedpdneanjbkaaGreatDoor
