/- How a script of calls that came in is opened. -/
import Derived.Test.YtfagjejknnkhdaaDoorBArgs
import Derived.Lib.SmallJoins
namespace Go.Proofs.YtfagjejknnkhdaaDoor
open Go.ChangeShapes Go.WideShapes Go.ChangeAt Go.RowKit

/-- One call of a script. -/
structure Cl where
  kind : Int
  on : Int
  n : Int
  other : Bool
/-- A script, cell by cell. -/
def CallsAt (w : World) (B : Nat) (v : Value) (l : List Cl) : Prop := ∃ a c, v = .slice a l.length c ∧ ∀ j (h : j < l.length), ∃ b off, a = some ⟨b, off, none⟩ ∧ b < B ∧
  w.cell? ⟨b, off + j * 4, none⟩ = some (.int .i64 (l[j]).kind) ∧ w.cell? ⟨b, off + j * 4 + 1, none⟩ = some (.int .i64 (l[j]).on) ∧ w.cell? ⟨b, off + j * 4 + 2, none⟩ = some (.int .i64 (l[j]).n) ∧ w.cell? ⟨b, off + j * 4 + 3, none⟩ = some (.bool (l[j]).other)
theorem CallsAt.below {w w' : World} {B : Nat} {v : Value} {l : List Cl} (h : CallsAt w B v l) (hb : Below B w w') : CallsAt w' B v l := by
  obtain ⟨a, c, rfl, h⟩ := h
  refine ⟨a, c, rfl, fun j hj => ?_⟩
  obtain ⟨b, off, e, hB, c0, c1, c2, c3⟩ := h j hj
  exact ⟨b, off, e, hB, (hb.cell hB).trans c0, (hb.cell hB).trans c1, (hb.cell hB).trans c2, (hb.cell hB).trans c3⟩

theorem cells_call : Tryd.prog.cellsOf 37 = 4 := by kernel_rfl
theorem cells_int1 : Tryd.prog.cellsOf 3 = 1 := by kernel_rfl
theorem cells_bool1 : Tryd.prog.cellsOf 4 = 1 := by kernel_rfl
theorem open_call {H : Type} {enc : TypeId × Value → H} {W : World} {cs : List Value} {d : DataW H} {p : List MemPlace} {fuel : Nat}
    (hf : DataW.trod enc Tryd.prog W 0 (fun _ => true) true fuel 37 cs = some (d, p)) :
    ∃ q : Cl, cs = [.int .i64 q.kind, .int .i64 q.on, .int .i64 q.n, .bool q.other] := by
  obtain ⟨y0, y1, y2, y3, n, hx, hl, h0, h1, h2, h3⟩ := Go.Joins.trod_struct4 Tryd.underlying37 hf
  rw [cells_call] at hl
  match cs, hl with
  | [c0, c1, c2, c3], _ =>
    rw [cells_int1] at h0 h1 h2
    rw [cells_bool1] at h3
    have h0' : DataW.trod enc Tryd.prog W 0 (fun _ => true) true n 3 [c0] = some y0 := h0
    have h1' : DataW.trod enc Tryd.prog W 0 (fun _ => true) true n 3 [c1] = some y1 := h1
    have h2' : DataW.trod enc Tryd.prog W 0 (fun _ => true) true n 3 [c2] = some y2 := h2
    have h3' : DataW.trod enc Tryd.prog W 0 (fun _ => true) true n 4 [c3] = some y3 := h3
    obtain ⟨k, e0, r0, _⟩ := DataW.trod_int Tryd.underlying3 h0'
    obtain ⟨u, e1, r1, _⟩ := DataW.trod_int Tryd.underlying3 h1'
    obtain ⟨v, e2, r2, _⟩ := DataW.trod_int Tryd.underlying3 h2'
    obtain ⟨b, e3, r3⟩ := DataW.trod_bool Tryd.underlying4 h3'
    simp only [List.cons.injEq, and_true] at e0 e1 e2 e3
    subst e0 e1 e2 e3
    exact ⟨⟨k, u, v, b⟩, rfl⟩
theorem open_calls {H : Type} {enc : TypeId × Value → H} {W : World} {a : Option Addr} {len cap : Nat} {d : DataW H} {p : List MemPlace} {fuel : Nat}
    (hf : DataW.trod enc Tryd.prog W 0 (fun _ => true) true fuel 22 (Value.cells (.slice a len cap)).toList = some (d, p)) :
    ∃ l : List Cl, l.length = len ∧ CallsAt W W.heap.size (.slice a len cap) l ∧ l.length ≤ Rows.uptoBulk d := by
  rcases Go.Deep.open_slice Tryd.underlying22 hf with ⟨hcs, _⟩ | ⟨x, l, c, m, n, D, Pl, hcs, _, hl, hm, hmm, hx, hV⟩
  · simp [Value.cells] at hcs
    obtain ⟨rfl, rfl, rfl⟩ := hcs
    exact ⟨[], rfl, ⟨none, 0, rfl, fun j hj => by simp at hj⟩, Nat.zero_le _⟩
  · simp [Value.cells] at hcs
    obtain ⟨rfl, rfl, rfl⟩ := hcs
    simp only [if_true] at hmm
    subst hmm
    rw [cells_call] at hV
    have hdd : d = _ := congrArg Prod.fst hx
    have hb : Rows.uptoBulkAll ((List.range len).map D) ≤ Rows.uptoBulk d := by
      rw [hdd]
      simp only [Rows.uptoBulk]
      omega
    have hall : ∀ i, i < len → ∃ q : Cl, W.cells? 0 (x.add (i * 4)) 4 = some [.int .i64 q.kind, .int .i64 q.on, .int .i64 q.n, .bool q.other] := fun i hi => by
      obtain ⟨cs', h1, h2⟩ := hV i (by omega)
      obtain ⟨q, e⟩ := open_call h2
      exact ⟨q, by rw [h1, e]⟩
    obtain ⟨F, hF⟩ : ∃ F : Nat → Cl, ∀ i, i < len → W.cells? 0 (x.add (i * 4)) 4 = some [.int .i64 (F i).kind, .int .i64 (F i).on, .int .i64 (F i).n, .bool (F i).other] :=
      ⟨fun i => if h : i < len then (hall i h).choose else ⟨0, 0, 0, false⟩, fun i hi => by simp only [hi, dif_pos]; exact (hall i hi).choose_spec⟩
    refine ⟨(List.range len).map F, by simp, ⟨some x, m, by simp, fun i hi => ?_⟩, ?_⟩
    · have hi' : i < len := by simpa using hi
      have h1 := hF i hi'
      have h0 := hF 0 (by omega)
      obtain ⟨b, off, spot⟩ := x
      have hspot : spot = none := by
        have h := (World.cells?_some h0).2.2 0 (by omega)
        simpa [Addr.add] using World.cell?_spot h
      subst hspot
      have hc := (World.cells?_some h1).2.2
      simp only [Addr.add_lit] at hc
      have eg : ((List.range len).map F)[i] = F i := by simp
      rw [eg]
      exact ⟨b, off, rfl, World.block_lt_of_cell? W _ (hc 0 (by omega)), hc 0 (by omega), hc 1 (by omega), hc 2 (by omega), hc 3 (by omega)⟩
    · have := bulk_length ((List.range len).map D)
      simp only [List.length_map, List.length_range] at this ⊢
      omega
end Go.Proofs.YtfagjejknnkhdaaDoor
