/- Lines and their words: how much they hold; what the event of a line is. -/
import Derived.Test.YthmhcpghfbifiaaGreatDoorGED
import Derived.Test.YthmhcpghfbifiaaGreatDoorGParA
import Derived.Test.YthmhcpghfbifiaaGreatDoorGBkA
import Derived.Test.YthmhcpghfbifiaaGreatDoorGText
import Derived.Test.YthmhcpghfbifiaaGreatDoorGEA
import Derived.Test.YthmhcpghfbifiaaGreatDoorZVParse
import Derived.Test.YthmhcpghfbifiaaGreatDoorGVDcA
import Derived.RecoverIn
import Derived.Test.YthmhcpghfbifiaaGreatDoorGEC
import Derived.Test.YthmhcpghfbifiaaGreatDoorGE8
namespace Go.Proofs.YthmhcpghfbifiaaGreatDoor
open Go.RowKit

theorem lns_sum : ∀ (l cur : List UInt8), ((lns cur l).map (fun x => x.length + 1)).sum ≤ cur.length + l.length + 1
  | [], cur => by unfold lns; split <;> simp
  | b :: t, cur => by
    unfold lns
    split
    · have := lns_sum t []
      simp at this ⊢
      omega
    · have := lns_sum t (cur ++ [b])
      simp at this ⊢
      omega
/-- How much of a text lines are, with their ends. -/
def stL (l : List (Nat × List UInt8)) : Nat := (l.map (fun x => x.2.length + 1)).sum
theorem stL_app (a b : List (Nat × List UInt8)) : stL (a ++ b) = stL a + stL b := by simp [stL]
theorem stL_cons (x : Nat × List UInt8) (b : List (Nat × List UInt8)) : stL (x :: b) = x.2.length + 1 + stL b := by simp [stL]
theorem stL_numd : ∀ (l : List (List UInt8)) (n : Nat), stL (numd n l) = (l.map (fun x => x.length + 1)).sum
  | [], _ => rfl
  | x :: r, n => by
    rw [numd, stL_cons, stL_numd r (n + 1)]
    simp
theorem lines_room {s : List UInt8} {pre post : List (Nat × List UInt8)} {x : Nat × List UInt8} (h : lines s = pre ++ x :: post) : stL pre + x.2.length ≤ s.length := by
  have h1 := lns_sum s []
  have h2 : stL (lines s) = ((lns [] s).map (fun x => x.length + 1)).sum := stL_numd _ _
  rw [h, stL_app, stL_cons] at h2
  simp only [List.length_nil] at h1
  omega
theorem tw_len (l : List UInt8) : (tw l).length ≤ l.length := (List.takeWhile_sublist _).length_le
theorem wds_room : ∀ (l : List UInt8) (off col : Nat) (ins : Bool), ∀ x ∈ wds off col ins l, x.off + x.text.length ≤ off + l.length := by
  refine ru_ind (fun _ _ _ x h => by simp [wds_nil] at h) ?_
  intro l hl ih off col ins x hx
  have h1 := wd_pos l
  have h2 := wd_le l hl
  have hd : (l.drop (wd l)).length = l.length - wd l := List.length_drop
  have ih' := fun b y hy => ih (off + wd l) (col + 1) b y hy
  rw [hd] at ih'
  rw [wds_step _ _ _ _ hl] at hx
  split at hx
  · have := ih' _ _ hx; omega
  · split at hx
    · have := ih' _ _ hx; omega
    · split at hx
      · simp at hx
      · rcases List.mem_cons.1 hx with rfl | hx
        · have := tw_len l
          simp only
          omega
        · have := ih' _ _ hx; omega
theorem ws_of_row {w : World} {L rb : Nat} {v : Value} {n : Int} {l : List Wd} (h : w.ownsRow L 93 4 v l.length (wordCells n l)) (hL : rb < L) (hl : l.length ≤ 1048576) (hx : ∀ x ∈ l, x.off + x.text.length ≤ 1048576) : WsAt w rb w.heap.size v n l := by
  rcases h.2 with ⟨h1, h2⟩ | ⟨g, cap, cur, rfl, hLg, hg, hc, hcm, _⟩
  · refine ⟨none, 0, by rw [h1, h2], by omega, Nat.zero_le _, hl, hx, fun h0 => absurd h0 (by omega)⟩
  · refine ⟨_, cap, rfl, hc, hcm, hl, hx, fun _ => ⟨g, 0, rfl, (Array.getElem?_eq_some_iff.1 hg).1, by omega, fun j u hj => ?_⟩⟩
    have hj4 : j < l.length * 4 := by have := (List.getElem?_eq_some_iff.1 hj).1; have := h.1; omega
    rw [Nat.zero_add, h.cellAt j hj4]
    exact hj
theorem nameM6_ok {p : Bool} {said : List UInt8} {l : List Wd} {t : List UInt8} {l' : List Wd} {rd : Nat} (h : nameM6 p said l = .ok (t, l', rd)) : fitB p t = true ∧ ∃ x, l = x :: l' ∧ t = x.text ∧ rd = x.off + x.text.length := by
  cases l with
  | nil => cases h
  | cons x r =>
    simp only [nameM6] at h
    split at h
    · rename_i hf
      cases h
      exact ⟨hf, x, rfl, rfl, rfl⟩
    · cases h
theorem valM6_ok {said : List UInt8} {rd : Nat} {v : Vl} (hs : said.length ≤ 1048576) (h : valM6 said rd = .ok v) : rightV v = true ∧ v.ok := by
  unfold valM6 at h
  have hl : (trimR (said.drop rd)).length ≤ 1048576 := by
    have := trimR_len (said.drop rd)
    rw [List.length_drop] at this
    omega
  cases hp : parM (trimR (said.drop rd)) with
  | ok u =>
    rw [hp] at h
    cases h
    exact parM_right hl hp
  | error z =>
    rw [hp] at h
    simp only at h
    split at h <;> cases h
theorem evM6_ok {said : List UInt8} {n start : Nat} {l : List Wd} {e : Evn} (hs : said.length ≤ 1048576) (hl : ∀ x ∈ l, x.off + x.text.length ≤ said.length) (h : evM6 said n start l = .ok e) : EvOk e ∧ rightE e = true ∧ e.val.size ≤ 1000000000 := by
  cases l with
  | nil => cases h
  | cons x r =>
    simp only [evM6] at h
    split at h
    · cases h0 : nameM6 true said r with
      | error z => rw [h0] at h; cases h
      | ok z0 =>
        obtain ⟨p, r1, rd1⟩ := z0
        rw [h0] at h
        simp only at h
        cases h1 : nameM6 false said r1 with
        | error z => rw [h1] at h; cases h
        | ok z1 =>
          obtain ⟨o, r2, rd2⟩ := z1
          rw [h1] at h
          simp only at h
          cases h2 : nameM6 true said r2 with
          | error z => rw [h2] at h; cases h
          | ok z2 =>
            obtain ⟨q, r3, rd3⟩ := z2
            rw [h2] at h
            simp only at h
            cases h3 : valM6 said rd3 with
            | error z => rw [h3] at h; cases h
            | ok v =>
              rw [h3] at h
              cases h
              obtain ⟨f0, y0, rfl, rfl, _⟩ := nameM6_ok h0
              obtain ⟨f1, y1, rfl, rfl, _⟩ := nameM6_ok h1
              obtain ⟨f2, y2, rfl, rfl, _⟩ := nameM6_ok h2
              obtain ⟨g1, g2⟩ := valM6_ok hs h3
              have k0 := hl y0 (by simp)
              have k1 := hl y1 (by simp)
              have k2 := hl y2 (by simp)
              have := right_size g1
              refine ⟨⟨by simp only; omega, by simp only; omega, by simp only; omega, g2⟩, ?_, by simp only; omega⟩
              have f0' : symB (bsN y0.text) = true := f0
              have f1' : anyB y1.text = true := f1
              have f2' : symB (bsN y2.text) = true := f2
              simp [rightE, f0', f1', f2', g1]
    · split at h
      · cases h0 : nameM6 true said r with
        | error z => rw [h0] at h; cases h
        | ok z0 =>
          obtain ⟨p, r1, rd1⟩ := z0
          rw [h0] at h
          simp only at h
          cases h3 : valM6 said rd1 with
          | error z => rw [h3] at h; cases h
          | ok v =>
            rw [h3] at h
            cases h
            obtain ⟨f0, y0, rfl, rfl, _⟩ := nameM6_ok h0
            obtain ⟨g1, g2⟩ := valM6_ok hs h3
            have k0 := hl y0 (by simp)
            have := right_size g1
            refine ⟨⟨by simp only; omega, by simp, by simp, g2⟩, ?_, by simp only; omega⟩
            have f0' : symB (bsN y0.text) = true := f0
            simp [rightE, f0', g1]
      · cases h
theorem goM6_none {acc : List Evn} {st : Nat} {x : Nat × List UInt8} {more : List (Nat × List UInt8)} (h : wds 0 0 false (aheadL x.2) = []) : goM6 acc st (x :: more) = goM6 acc (st + x.2.length + 1) more := by
  rw [goM6, if_pos h]
theorem goM6_more {acc : List Evn} {st : Nat} {x : Nat × List UInt8} {more : List (Nat × List UInt8)} {y : Wd} {r : List Wd} {e : Evn} (h : wds 0 0 false (aheadL x.2) = y :: r) (he : evM6 (aheadL x.2) x.1 st (y :: r) = .ok e) : goM6 acc st (x :: more) = goM6 (acc ++ [e]) (st + x.2.length + 1) more := by
  rw [goM6, if_neg (by rw [h]; simp), h, he]
theorem goM6_stop {acc : List Evn} {st : Nat} {x : Nat × List UInt8} {more : List (Nat × List UInt8)} {y : Wd} {r : List Wd} {c : Int} {o : Nat} (h : wds 0 0 false (aheadL x.2) = y :: r) (he : evM6 (aheadL x.2) x.1 st (y :: r) = .error (c, o)) : goM6 acc st (x :: more) = .error (c, st + o) := by
  rw [goM6, if_neg (by rw [h]; simp), h, he]
theorem wds_all (s : List UInt8) : ∀ x ∈ wds 0 0 false s, x.off + x.text.length ≤ s.length := fun x hx => by
  have := wds_room s 0 0 false x hx
  omega
end Go.Proofs.YthmhcpghfbifiaaGreatDoor

/- A range over a function whose rounds may panic: the statement within one function's own frames. -/
namespace Go.Proofs.YthmhcpghfbifiaaGreatDoor
open Go.RowKit
attribute [local go_sem] Oper.semAt_some

/-- How a round may end: off its end, or by a panic with nothing deferred. -/
def roundPostX6 (P : Program) (l : Nat) (R : Ending → World → Prop) : Exit → Act → World → Prop
  | .normal, _, w => ∃ v w', (Instr.endRound l none).run P w = .ok v w' ∧ R (.returned v) w'
  | .panic c, a, w => a.defers = [] ∧ R (.panicked c) w
  | _, _, _ => False

theorem roundIn_of_wpInX6 {F : Fence} {n : Nat} {P : Program} {l : Nat} {f : FuncId} {fn : Func} {tmps : Array Value} {assign body : Code} {w : World} {R : Ending → World → Prop} (hF : F.fn f) (hf : P.funcs[f]? = some fn)
    (h : assign.wpIn (F.inRound l) n P (Exit.then (fun a₁ w₁ => ∃ w₂, (Instr.beginRound l).run P w₁ = .ok () w₂ ∧ body.wpIn (F.inRound l) n P (roundPostX6 P l R) a₁ w₂) (fun _ _ _ => False))
      { tmps := tmps, defers := [] } w) :
    RoundIn F n P l f tmps assign body w R := by
  refine ⟨hF, fun c cs hr => ?_⟩
  let b : Frame := { (default : Frame) with fn := f, kind := .normal, roundOf := some l }
  have hb0 : Frame.round l f tmps assign body .normal = b.atR { tmps := tmps, defers := [] } [.code assign, .beginRound, .code body] := by
    simp [Frame.round, Frame.atR, b]
  have hr' : (F.inRound l).room ((c :: cs).length + 1 + n) := hr
  have hF' : (F.inRound l).fn b.fn := hF
  obtain ⟨e, a₁, w₁, hq, harr⟩ := h b [.beginRound, .code body] (c :: cs) rfl hF' hr'
  rw [← hb0] at harr
  cases e with
  | normal =>
    obtain ⟨w₂, hbr, hbody⟩ := hq
    have s1 : StepsIn (Machine.fenced P (F.inRound l)) P (lone (b.atR a₁ [.beginRound, .code body]) (c :: cs) w₁) (lone (b.atR a₁ [.code body]) (c :: cs) w₂) :=
      .one (fenced_calm (fr := b.atR a₁ [.beginRound, .code body]) hF' hr' rfl) (stepR_beginRound rfl hbr)
    obtain ⟨e₂, a₂, w₃, hq₂, harr₂⟩ := hbody b [] (c :: cs) rfl hF' hr'
    cases e₂ with
    | normal =>
      obtain ⟨v, w₄, hend, hR⟩ := hq₂
      exact ⟨.returned v, w₄, hR, (StepsIn.trans harr s1).trans (StepsIn.trans harr₂ (.one (fenced_calm (fr := b.atR a₂ []) hF' hr' rfl) (stepR_round_end rfl rfl hend)))⟩
    | panic chain =>
      obtain ⟨hd, hR⟩ := hq₂
      obtain ⟨todo, hs⟩ := harr₂
      have hl : Frame.leaving P { b.atR a₂ todo with mode := .panicking chain } w₃ (.panicked chain) := ⟨rfl, hd, fn, hf⟩
      exact ⟨.panicked chain, w₃, hR, (StepsIn.trans harr s1).trans (StepsIn.trans hs (.one (fenced_leaving hF' hr' hl) (step_leave_panicked hl)))⟩
    | ret => exact hq₂.elim
    | exit id => exact hq₂.elim
    | goto t => exact hq₂.elim
    | outgrown => exact hq₂.elim
  | exit id => exact hq.elim
  | goto t => exact hq.elim
  | ret => exact hq.elim
  | panic chain => exact hq.elim
  | outgrown => exact hq.elim

/-- The walk of one function's own frames alone. -/
def Code.wpAt (F : Fence) (n : Nat) (P : Program) (f0 : FuncId) (c : Code) (Q : Exit → Act → World → Prop) (a : Act) (w : World) : Prop :=
  ∀ (b : Frame) (k : List Item) (cs : List Frame), b.fn = f0 → b.roundOf = F.round → F.fn b.fn → F.room (cs.length + 1 + n) →
    ∃ e a' w', Q e a' w' ∧ ArrivesIn (Machine.fenced P F) P (lone (b.atR a (.code c :: k)) cs w) b k cs e a' w'
theorem wpAt_of_wpIn {F : Fence} {n : Nat} {P : Program} {f0 : FuncId} {c : Code} {Q : Exit → Act → World → Prop} {a : Act} {w : World} (h : c.wpIn F n P Q a w) : Code.wpAt F n P f0 c Q a w :=
  fun b k cs _ hro hb hr => h b k cs hro hb hr
theorem wpAt_seq {F : Fence} {n : Nat} {P : Program} {f0 : FuncId} {c d : Code} {Q : Exit → Act → World → Prop} {a : Act} {w : World} (h : Code.wpAt F n P f0 c (Exit.then (Code.wpAt F n P f0 d Q) Q) a w) : Code.wpAt F n P f0 (.seq c d) Q a w := by
  intro b k cs hf hro hb hr
  have s0 : StepsIn (Machine.fenced P F) P (lone (b.atR a (.code (.seq c d) :: k)) cs w) (lone (b.atR a (.code c :: .code d :: k)) cs w) := .one (fenced_calm (fr := b.atR a (.code (.seq c d) :: k)) hb hr rfl) stepR_seq
  obtain ⟨e, a₁, w₁, hq, harr⟩ := h b (.code d :: k) cs hf hro hb hr
  cases e with
  | normal =>
    obtain ⟨e₂, a₂, w₂, hq₂, harr₂⟩ := hq b k cs hf hro hb hr
    exact ⟨e₂, a₂, w₂, hq₂, .of_steps (StepsIn.trans s0 harr) harr₂⟩
  | exit id => exact ⟨.exit id, a₁, w₁, hq, .of_steps s0 harr⟩
  | goto t => exact ⟨.goto t, a₁, w₁, hq, .of_steps s0 harr⟩
  | ret => exact ⟨.ret, a₁, w₁, hq, .of_steps s0 harr⟩
  | panic chain => exact ⟨.panic chain, a₁, w₁, hq, .of_steps s0 harr⟩
  | outgrown => exact ⟨.outgrown, a₁, w₁, hq, .of_steps s0 harr⟩
theorem callsIn_of_wpAt {F : Fence} {n : Nat} {P : Program} {f : FuncId} {fn : Func} {c : Code} {args : Array Value} {w : World} {R : Ending → World → Prop}
    (hf : P.funcs[f]? = some fn) (hb : fn.body = some c) (hF : F.fn f)
    (h : Code.wpAt F n P f c (bodyPostM F n P fn R) { tmps := args ++ Array.replicate (fn.ntmps - args.size) undef, defers := [] } w) (hro : F.round = none := by rfl) : CallsIn F n P f args w R := by
  refine ⟨hF, fun cs hr => ?_⟩
  let b : Frame := { (default : Frame) with fn := f, kind := .normal, roundOf := none }
  have henter : Frame.enter P f args .normal =
      b.atR { tmps := args ++ Array.replicate (fn.ntmps - args.size) undef, defers := [] } [.code c] := by
    simp [Frame.enter, Frame.atR, hf, hb, b]
  obtain ⟨e, a', w', hq, harr⟩ := h b [] cs rfl hro.symm hF hr
  rw [← henter] at harr
  cases e with
  | normal =>
    obtain ⟨e', w'', fr', hR, hs, hfn, hl⟩ := leaves_stepsInM a'.defers .returning w' { b.atR a' [] with mode := .returning } cs rfl rfl rfl hf rfl hF hr hq
    exact ⟨e', w'', fr', hR, ComesIn.of_steps (StepsIn.trans harr (.one (fenced_calm (fr := b.atR a' []) hF hr rfl) (stepR_end rfl))) hs, hfn, hl⟩
  | ret =>
    obtain ⟨todo, hs₀⟩ := harr.1 rfl
    obtain ⟨e', w'', fr', hR, hs, hfn, hl⟩ := leaves_stepsInM a'.defers .returning w' { b.atR a' todo with mode := .returning } cs rfl rfl rfl hf rfl hF hr hq
    exact ⟨e', w'', fr', hR, ComesIn.of_steps hs₀ hs, hfn, hl⟩
  | panic chain =>
    obtain ⟨todo, hs₀⟩ := harr
    obtain ⟨e', w'', fr', hR, hs, hfn, hl⟩ := leaves_stepsInM a'.defers (.panicking chain) w' { b.atR a' todo with mode := .panicking chain } cs rfl rfl rfl hf rfl hF hr hq
    exact ⟨e', w'', fr', hR, ComesIn.of_steps hs₀ hs, hfn, hl⟩
  | exit id => exact hq.elim
  | goto l => exact hq.elim
  | outgrown => exact ⟨.outgrown, w', b, hq, harr.resolve_left (by simp [b]), rfl, trivial⟩

theorem wpAt_rangeFunc {F : Fence} {n : Nat} {P : Program} {f0 : FuncId} {g : Operand} {ps : Array Tmp} {assign body : Code} {Q : Exit → Act → World → Prop} {a : Act} {w : World}
    (h : ∃ (l : Nat) (mark : List Deferred) (w₁ : World) (d : Deferred) (w₁' : World) (f : FuncId) (args : Array Value) (w₂ : World),
      (Instr.enterLoop f0 a.tmps ps assign body F.round).run P w = .ok (l, mark) w₁ ∧
      (resolve a.eval (rangeCall g l) 0).run P w₁ = .ok d w₁' ∧
      (∀ f', Target.leads P w₁' d.target d.args = some f' → F.fn f') ∧
      (invoke d.target d.args).run P w₁' = .ok (.enter f args) w₂ ∧
      (F.depth.isSome = true → 1 ≤ n) ∧
      CallsIn F (n - 1) P f args w₂ (rangePost F n P l Q { a with defers := mark ++ a.defers })) :
    Code.wpAt F n P f0 (Code.rangeFunc g ps assign body) Q a w := by
  intro b k cs hbf hro hb hr
  obtain ⟨l, mark, w₁, d, w₁', f, args, w₂, he, hres, hlead, hinv, hn, hF, hcall⟩ := h
  rw [← hro, ← hbf] at he
  have h0 : (lone (b.atR a (.code (.rangeFunc g ps assign body) :: k)) cs w).fenced P F := by
    refine fenced_lone (.inl hb) (fun f' hf' => hlead f' ?_) (Fence.room_le hr (by omega))
    have hev := Frame.eval_atR b a (.code (.rangeFunc g ps assign body) :: k)
    simp only [Frame.atR] at hev
    simp only [Frame.about, Frame.atR, he, hev, hres] at hf'
    exact hf'
  have henter := stepR_rangeFunc (P := P) (b := b) (a := a) (k := k) (cs := cs) (w := w) he hres hinv
  have hroom : F.room ((b.atR { a with defers := mark ++ a.defers } (.inRangeFunc l :: k) :: cs).length + 1 + (n - 1)) := Fence.room_enter hr hn
  obtain ⟨e, w₃, fr, hR, hsteps, hfn, hleave⟩ := hcall (b.atR { a with defers := mark ++ a.defers } (.inRangeFunc l :: k) :: cs) hroom
  cases e with
  | outgrown =>
    obtain ⟨a₀, w₀, hq⟩ := hR
    exact ⟨.outgrown, a₀, w₀, hq, .inr (Outgrown.of_steps (.one henter) hsteps)⟩
  | returned v =>
    have hl : (lone fr (b.atR { a with defers := mark ++ a.defers } (.inRangeFunc l :: k) :: cs) w₃).fenced P F := fenced_leaving (hfn ▸ hF) hroom hleave
    obtain ⟨jump, w₄, hend, hj⟩ := hR
    have sback : StepsIn (Machine.fenced P F) P (lone (b.atR a (.code (.rangeFunc g ps assign body) :: k)) cs w) (lone (b.atR { a with defers := mark ++ a.defers } ((jump.map Item.code).toList ++ k)) cs w₄) := by
      refine .head h0 henter (StepsIn.trans hsteps (.head hl ?_ (.one (fenced_calm (fr := b.atR { a with defers := mark ++ a.defers } (.endRangeFunc l :: k)) hb hr rfl) (stepR_endRangeFunc hend))))
      rw [← finish_atR_inRangeFunc l v]; exact step_leave_returned hleave
    cases jump with
    | none => exact ⟨.normal, _, w₄, hj, sback⟩
    | some c =>
      obtain ⟨e', a'', w₅, hq, harr⟩ := hj b k cs hro hb hr
      exact ⟨e', a'', w₅, hq, .of_steps sback harr⟩
  | panicked chain =>
    have hl : (lone fr (b.atR { a with defers := mark ++ a.defers } (.inRangeFunc l :: k) :: cs) w₃).fenced P F := fenced_leaving (hfn ▸ hF) hroom hleave
    refine ⟨.panic chain, _, w₃, hR, .inRangeFunc l :: k, .head h0 henter (StepsIn.trans hsteps (.one hl ?_))⟩
    rw [← Frame.raise_atR]; exact step_leave_panicked hleave

/-- How the body of a round may be left. -/
def roundPostC {α : Type} (B sb A : Nat) (I : List α → World → Prop) (Ip : List PanicEntry → List α → World → Prop) (xs : List α) (W : World) : Exit → Act → World → Prop
  | .normal, _, W' => Kept B sb A W W' ∧ I xs W'
  | .panic c, a, W' => a.defers = [] ∧ Kept B sb A W W' ∧ Ip c xs W'
  | _, _, _ => False
/-- What the iterator owes to a loop that begins in w, and whose rounds go on or panic. -/
def SeqX6 {α : Type} (n : Nat) (P : Program) (g : Nat) (lb : Array Value) (encs : α → Array Value) (sb A : Nat) (KA : Obj → Prop) (xs : List α) (w : World) : Prop :=
  ∀ (l : Nat) (J : List α → World → Prop) (Jp : List PanicEntry → List α → World → Prop) (W : World), W.heap.size = w.heap.size + 2 → (∀ k, k < w.heap.size → W.heap[k]? = w.heap[k]?) → OwnI w.heap.size A KA J →
    (∀ pre x W1, J pre W1 → (∃ post, xs = pre ++ x :: post) → (∃ o : Obj, W1.heap[A]? = some o ∧ KA o) → YieldAt Fence.wide (n - 1) P l (encs x) W1 fun e W' =>
      (e = .returned (.bool true) ∧ J (pre ++ [x]) W' ∧ Kept w.heap.size sb A W1 W') ∨ (∃ c, e = .panicked c ∧ Jp c (pre ++ [x]) W')) →
    J [] W →
    CallsIn Fence.wide n P g (#[.func (.yield l) #[] #[]] ++ lb) W fun e W' => ((∃ v, e = .returned v) ∧ J xs W') ∨ (∃ c pre x post, e = .panicked c ∧ xs = pre ++ x :: post ∧ Jp c (pre ++ [x]) W')

theorem seq_lawX6 {α : Type} {n : Nat} {P : Program} {f0 : FuncId} {fn0 : Func} {g : Operand} {ps : Array Tmp} {assign body : Code} {Q : Exit → Act → World → Prop} {a : Act} {w : World}
    (hf0 : P.funcs[f0]? = some fn0) {gf : Nat} {lb : Array Value} (hg : a.eval g = .func (.func gf) #[] lb) (eg : ∀ args w, (callFunc gf args).run P w = .ok (.enter gf args) w)
    {encs : α → Array Value} {sb A : Nat} (hsb : sb < w.heap.size) (hA : w.heap.size + 2 ≤ A) {KA : Obj → Prop} {xs : List α} (hseq : SeqX6 (n - 1) P gf lb encs sb A KA xs w) (hps : ∀ x, (encs x).size = ps.size)
    (I : List α → World → Prop) (Ip : List PanicEntry → List α → World → Prop) (hI : OwnB w.heap.size A KA I) (h0 : I [] w)
    (hround : ∀ (l : Nat) (pre : List α) (x : α) (W : World), I pre W → (∃ post, xs = pre ++ x :: post) → A < W.heap.size → (∃ o : Obj, W.heap[A]? = some o ∧ KA o) →
      assign.wpIn (Fence.wide.inRound l) (n - 1 - 1) P (Exit.then (fun a₁ W₁ => Kept w.heap.size sb A W W₁ ∧ ∃ J : Unit → World → Prop, OwnB w.heap.size A KA J ∧ J () W₁ ∧
          ∀ W₂, J () W₂ → A < W₂.heap.size → (∃ o : Obj, W₂.heap[A]? = some o ∧ KA o) → body.wpIn (Fence.wide.inRound l) (n - 1 - 1) P (roundPostC w.heap.size sb A I Ip (pre ++ [x]) W₂) a₁ W₂) (fun _ _ _ => False))
        { tmps := (ps.zip (encs x)).foldl (fun t (p, v) => t.setIfInBounds p v) a.tmps, defers := [] } W)
    (hdone : ∀ (W : World), I xs W → W.heap[w.heap.size]? = some (.deferred (some [])) → Q .normal { a with defers := { target := .collected w.heap.size, args := #[] } :: a.defers } W)
    (hstop : ∀ (c : List PanicEntry) (pre : List α) (x : α) (W : World), (∃ post, xs = pre ++ x :: post) → Ip c (pre ++ [x]) W → W.heap[w.heap.size]? = some (.deferred (some [])) → Q (.panic c) { a with defers := { target := .collected w.heap.size, args := #[] } :: a.defers } W) :
    Code.wpAt Fence.wide n P f0 (Code.rangeFunc g ps assign body) Q a w := by
  refine wpAt_rangeFunc ?_
  let rec' : LoopState → Option Code → Loop := fun st pe => { state := st, pending := pe, fn := f0, tmps := a.tmps, params := ps, assign, body, defers := w.heap.size }
  obtain ⟨R, hR⟩ : ∃ R : LoopState → Option Code → Loop, R = rec' := ⟨_, rfl⟩
  obtain ⟨W1, hW1⟩ : ∃ W1, (w.alloc (.deferred (some []))).alloc (.loop (R .ready none)) = W1 := ⟨_, rfl⟩
  have hs1 : W1.heap.size = w.heap.size + 2 := by rw [← hW1]; simp
  have hlow : ∀ k, k < w.heap.size → W1.heap[k]? = w.heap[k]? := fun k hk => by
    rw [← hW1]
    exact (Below.heap_alloc _ _ _ (by simp; omega)).trans (Below.heap_alloc _ _ _ hk)
  have hL1 : W1.heap[w.heap.size + 1]? = some (.loop (R .ready none)) := by
    rw [← hW1]
    have := World.alloc_heap_new (w.alloc (.deferred (some []))) (.loop (R .ready none))
    rwa [World.size_alloc] at this
  have hK1 : W1.heap[w.heap.size]? = some (.deferred (some [])) := by
    rw [← hW1]
    exact (Below.heap_alloc _ _ _ (by simp)).trans (World.alloc_heap_new w _)
  have hI1 : I [] W1 := by rw [← hW1]; exact hI.alloc _ (hI.alloc _ h0)
  refine ⟨w.heap.size + 1, [{ target := .collected w.heap.size, args := #[] }], W1, { target := .fn (.func gf) lb, args := #[.func (.yield (w.heap.size + 1)) #[] #[]] }, W1, gf,
    #[.func (.yield (w.heap.size + 1)) #[] #[]] ++ lb, W1, ?_, ?_, fun _ _ => trivial, ?_, (fun h => by cases h), ?_⟩
  · rw [← hW1, hR]
    exact run_enterLoop_outer _ _ _ _ _
  · simp only [resolve, hg]
    simp [go_sem]
  · simp [invoke, go_sem, eg]
  have low : ∀ {W W' : World} {row : Option Nat} {k : Nat} {o : Obj}, W.grownBy W' row → (∀ r, row = some r → w.heap.size + 2 ≤ r ∧ ((∃ o : Obj, W.heap[r]? = some o ∧ o.isCells = false) ∨ (r = A ∧ ∃ o : Obj, W.heap[r]? = some o ∧ KA o))) → k < w.heap.size + 2 → W.heap[k]? = some o → W'.heap[k]? = some o :=
    fun hg' hr hk ho => (hg'.block _ (Array.getElem?_eq_some_iff.1 ho).1 fun e => by have := (hr _ e.symm).1; omega).trans ho
  have up : ∀ {W : World} {row : Option Nat}, (∀ r, row = some r → w.heap.size + 2 ≤ r ∧ ((∃ o : Obj, W.heap[r]? = some o ∧ o.isCells = false) ∨ (r = A ∧ ∃ o : Obj, W.heap[r]? = some o ∧ KA o))) → ∀ r, row = some r → w.heap.size ≤ r ∧ ((∃ o : Obj, W.heap[r]? = some o ∧ o.isCells = false) ∨ (r = A ∧ ∃ o : Obj, W.heap[r]? = some o ∧ KA o)) :=
    fun hr r e => ⟨by have := (hr r e).1; omega, (hr r e).2⟩
  refine (hseq (w.heap.size + 1)
    (fun pre W => I pre W ∧ W.heap[w.heap.size + 1]? = some (.loop (R .ready none)) ∧ W.heap[w.heap.size]? = some (.deferred (some [])))
    (fun c pre W => Ip c pre W ∧ W.heap[w.heap.size]? = some (.deferred (some [])))
    W1 hs1 hlow
    (fun s X Y row hs hg' hr => ⟨hI s X Y row hs.1 hg' (up hr), low hg' hr (by omega) hs.2.1, low hg' hr (by omega) hs.2.2⟩)
    ?_ ⟨hI1, hL1, hK1⟩).mono ?_
  · rintro pre x W ⟨hi, hl, hk⟩ hpost ⟨oA, hoA, hkA⟩
    have hAW : A < W.heap.size := (Array.getElem?_eq_some_iff.1 hoA).1
    have hlt : w.heap.size + 1 < W.heap.size := (Array.getElem?_eq_some_iff.1 hl).1
    have hy := run_yield (P := P) (args := encs x) hl (by rw [hR]; exact hps x)
    rw [hR] at hy
    refine ⟨f0, _, assign, body, hy, roundIn_of_wpInX6 trivial hf0 (wpIn_mono (hround _ pre x W hi hpost hAW ⟨oA, hoA, hkA⟩) ?_)⟩
    rintro e a₁ Wa he
    cases e with
    | normal =>
      obtain ⟨hka, J, hJ, hJa, hbody⟩ := he
      have hla := hka.other _ _ (by omega) hl rfl
      have hkka := hka.other _ _ (Nat.le_refl _) hk rfl
      have hlta := (Array.getElem?_eq_some_iff.1 hla).1
      refine ⟨_, run_beginRound hla (by rw [hR]), ?_⟩
      obtain ⟨Wb, hWb⟩ : ∃ Wb, Wa.putObj (w.heap.size + 1) (.loop { R .ready none with state := .busy }) = Wb := ⟨_, rfl⟩
      rw [hWb]
      have hgb : Wa.grownBy Wb (some (w.heap.size + 1)) := by rw [← hWb]; exact grownBy_putObj' _ _ _
      have hlb : Wb.heap[w.heap.size + 1]? = some (.loop { R .ready none with state := .busy }) := by rw [← hWb]; exact World.putObj_heap_same hlta
      have hkb : Wb.heap[w.heap.size]? = some (.deferred (some [])) := (hgb.block _ (Array.getElem?_eq_some_iff.1 hkka).1 (by simp)).trans hkka
      have hJb : J () Wb := hJ () Wa Wb _ hJa hgb (fun r e => by cases e; exact ⟨by omega, .inl ⟨_, hla, rfl⟩⟩)
      refine wpIn_mono (hbody Wb hJb (by have := hgb.size; have := hka.size; omega) ⟨oA, (hgb.block A (by have := hka.size; omega) (by simp; omega)).trans (hka.own oA hoA), hkA⟩) ?_
      have fin : ∀ (jump : Option Code) (W3 : World), Kept w.heap.size sb A Wb W3 →
          W3.heap[w.heap.size + 1]? = some (.loop { R .ready none with state := .busy }) ∧
          (Instr.endRound (w.heap.size + 1) jump).run P W3 = .ok (.bool jump.isNone) (W3.putObj (w.heap.size + 1) (.loop (R (if jump.isNone then .ready else .done) jump))) ∧
          (W3.putObj (w.heap.size + 1) (.loop (R (if jump.isNone then .ready else .done) jump))).heap[w.heap.size + 1]? = some (.loop (R (if jump.isNone then .ready else .done) jump)) ∧
          (W3.putObj (w.heap.size + 1) (.loop (R (if jump.isNone then .ready else .done) jump))).heap[w.heap.size]? = some (.deferred (some [])) ∧
          ∀ k o, k ≠ w.heap.size + 1 → Wb.heap[k]? = some o → W3.heap[k]? = some o → (W3.putObj (w.heap.size + 1) (.loop (R (if jump.isNone then .ready else .done) jump))).heap[k]? = some o := fun jump W3 hk3 => by
        have hl3 := hk3.other _ _ (by omega) hlb rfl
        have hend := run_endRound (P := P) jump hl3
        refine ⟨hl3, ?_, World.putObj_heap_same (Array.getElem?_eq_some_iff.1 hl3).1, (World.putObj_heap_other (by omega)).trans (hk3.other _ _ (Nat.le_refl _) hkb rfl), fun k o hne _ h3 => (World.putObj_heap_other hne).trans h3⟩
        rw [hR] at hend ⊢
        exact hend
      rintro e a3 W3 hp
      cases e with
      | normal =>
        obtain ⟨hk3, hi3⟩ := hp
        obtain ⟨hl3, hr, hl4, hk4, hoth⟩ := fin none W3 hk3
        refine ⟨_, _, hr, .inl ⟨rfl, ⟨hI.putObj _ hi3 (by omega) hl3 rfl, hl4, hk4⟩, ?_⟩⟩
        have hb : ∀ k o, k ≠ w.heap.size + 1 → Wa.heap[k]? = some o → Wb.heap[k]? = some o := fun k o hne h => (hgb.block k (Array.getElem?_eq_some_iff.1 h).1 (by simpa using hne)).trans h
        refine ⟨by have := hka.size; have := hgb.size; have := hk3.size; simp; omega, fun k o hB hk' ho => ?_, fun o ho => ?_, fun o ho => ?_⟩
        · by_cases e : k = w.heap.size + 1
          · subst e
            rw [hl] at hk'
            cases hk'
            exact hl4
          · have h1 := hb k o e (hka.other k o hB hk' ho)
            exact hoth k o e h1 (hk3.other k o hB h1 ho)
        · have h1 := hb sb o (by omega) (hka.box o ho)
          exact hoth sb o (by omega) h1 (hk3.box o h1)
        · have h1 := hb _ o (by omega) (hka.own o ho)
          exact hoth _ o (by omega) h1 (hk3.own o h1)
      | panic c =>
        obtain ⟨hd3, hk3, hi3⟩ := hp
        exact ⟨hd3, .inr ⟨c, rfl, hi3, hk3.other _ _ (Nat.le_refl _) hkb rfl⟩⟩
      | ret => exact hp.elim
      | exit id => exact hp.elim
      | goto t => exact hp.elim
      | outgrown => exact hp.elim
    | ret => exact he
    | exit id => exact he
    | goto t => exact he
    | panic ch => exact he
    | outgrown => exact he
  · rintro e W2 (⟨⟨v, rfl⟩, hi, hl, hk⟩ | ⟨c, pre, x, post, rfl, hx, hi, hk⟩)
    · exact ⟨none, _, by have := run_endLoop (P := P) hl (by rw [hR]; simp [rec']); rw [hR] at this; rw [hR] at hl; exact this, hdone _ (hI.putObj _ hi (by omega) hl rfl) ((World.putObj_heap_other (by omega)).trans hk)⟩
    · exact hstop c pre x _ ⟨post, hx⟩ hi hk
set_option maxRecDepth 100000 in
set_option maxHeartbeats 2000000 in
theorem lines_seqX6 (n : Nat) (s : ByteArray) (hs : s.size ≤ 281474976702464) (sb : Nat) (w : World) (hsb : Boxed w sb 9 (.string s)) :
    SeqX6 n Tryz.prog 41 #[.pointer (some ⟨sb, 0, none⟩)] lineV sb (w.heap.size + 2) (fun _ => True) (lines s.data.toList) w := fun l J Jp W hWs hWlow hJ hY h0 => by
  have hsbW : Boxed W sb 9 (.string s) := (hWlow sb hsb.lt).trans hsb
  have hcs := hsbW.cell
  have hlen : s.data.toList.length = s.size := by rw [Array.length_toList]; rfl
  have hA : w.heap.size + 2 = W.heap.size := by omega
  rw [hA] at hJ hY
  have HWs := hide hWs
  clear hWs hWlow hA
  have hrg := fun w' => run_range_string (P := Tryz.prog) w' 9 s Tryz.underlying9
  refine callsIn_of_wp Tryz.func41 rfl trivial ?_ rfl
  simp only [Tryz.ntmps41, List.size_toArray, List.length_cons, List.length_nil, Nat.reduceAdd, Nat.reduceSub, Array.replicate_succ, Array.replicate_zero, List.push_toArray, List.append_toArray, List.nil_append, List.cons_append]
  gi_wp2
  gi_loopw [3, 4, 5, 6] (fun vn vb _ _ wr => ∃ (k b : Nat) (pre : List (Nat × List UInt8)), vn = .int .i64 ((pre.length + 1 : Nat) : Int) ∧ vb = .int .i64 (b : Int) ∧ b ≤ k ∧ k ≤ s.size ∧ pre.length ≤ k ∧ wr.heap[W.heap.size]? = some (.stringIter s k) ∧ Boxed wr sb 9 (.string s) ∧ lines s.data.toList = pre ++ numd (pre.length + 1) (lns ((s.data.toList.drop b).take (k - b)) (s.data.toList.drop k)) ∧ J pre wr)
    (fun _ _ _ _ wr => s.size - wr.iterPos W.heap.size)
  case atStart =>
    refine ⟨0, 0, [], rfl, rfl, Nat.le_refl _, Nat.zero_le _, Nat.le_refl _, World.iter_heap W s 0, hsbW.alloc _, by simp [lines], hJ.alloc _ h0⟩
  case round =>
    obtain ⟨k, b, pre, rfl, rfl, hbk, hk, hpk, hit, hbx, hels, hJr⟩ := hrel
    have hpos : wr.iterPos W.heap.size = k := by simp [World.iterPos, hit]
    have hsW : W.heap.size < wr.heap.size := (Array.getElem?_eq_some_iff.1 hit).1
    have hsl := hsb.lt
    clear hrg hcs
    by_cases hlt : k < s.size
    · have hne : s.data.toList.drop k ≠ [] := by
        intro e
        have := congrArg List.length e
        rw [List.length_drop, hlen] at this
        simp at this
        omega
      have hd := Lib.decodeL_drop s k
      have hw1 : (Utf8.decode s k).2 = wd (s.data.toList.drop k) := by rw [wd, hd]
      have hr1 : rv (s.data.toList.drop k) = 10 ↔ (Utf8.decode s k).1 = 10 := by
        unfold rv
        rw [hd]
        split <;> omega
      have hwd := wd_pos (s.data.toList.drop k)
      have hwl := wd_le _ hne
      rw [List.length_drop, hlen] at hwl
      have hnx := fun ty => Lib.run_next_any_at (P := Tryz.prog) wr W.heap.size s k ty hit hlt
      rw [hw1] at hnx
      have hbx2 : Boxed (wr.iterAt W.heap.size s (k + wd (s.data.toList.drop k))) sb 9 (.string s) := hbx.kept (grown_iter _ _ _ _) (by have := HWs.out; simp; omega)
      have hit2 := Lib.iterAt_heap wr W.heap.size s k (k + wd (s.data.toList.drop k)) hit
      have hJ2 := hJ.iter (by have := HWs.out; omega) hit (k + wd (s.data.toList.drop k)) hJr
      have c2 := hbx2.cell
      by_cases hten : rv (s.data.toList.drop k) = 10
      · obtain ⟨hl1, hl2⟩ := lns_ten ((s.data.toList.drop b).take (k - b)) _ hne hten
        rw [hl1, List.drop_drop] at hels
        rw [hl2] at hnx hbx2 hit2 hJ2 c2 hels
        rw [numd] at hels
        rw [hr1] at hten
        rw [hten] at hnx
        obtain ⟨fn, tmps, assign, body, hy, hR⟩ := hY pre _ _ hJ2 ⟨_, hels⟩ ⟨_, hit2, trivial⟩
        dsimp only [lineV] at hy
        rw [← extract_str, Int.natCast_add, Int.natCast_one] at hy
        clear hl1 hl2
        gi_wp2
        refine ⟨(fun h => by cases h), hR.mono ?_⟩
        rintro e W4 (⟨rfl, hJ4, hk4⟩ | ⟨ch, rfl, hJp4⟩)
        · have hit4 := hk4.other _ _ (by have := HWs.out; omega) hit2 rfl
          have hbx4 : Boxed W4 sb 9 (.string s) := hk4.box _ hbx2
          gi_wp2
          go_roundw
          case rel =>
            refine ⟨k + 1, k + 1, pre ++ [(pre.length + 1, (s.data.toList.drop b).take (k - b))], ?_, ?_, Nat.le_refl _, by omega, by simp; omega, hit4, hbx4, ?_, hJ4⟩
            · simp
            · simp
            · rw [hels]
              simp
          case measure =>
            have hp4 : W4.iterPos W.heap.size = k + 1 := by simp only [World.iterPos, hit4]
            rw [hp4, hpos]
            omega
        · exact ⟨rfl, .inr ⟨_, _, _, _, rfl, hels, hJp4⟩⟩
      · rw [lns_rune _ _ hne hten, List.drop_drop] at hels
        have hcat : (s.data.toList.drop b).take (k - b) ++ (s.data.toList.drop k).take (wd (s.data.toList.drop k)) = (s.data.toList.drop b).take (k + wd (s.data.toList.drop k) - b) := by
          have e1 : k + wd (s.data.toList.drop k) - b = (k - b) + wd (s.data.toList.drop k) := by omega
          rw [e1, List.take_add, List.drop_drop]
          congr 3
          omega
        rw [hcat] at hels
        have hten' : (Utf8.decode s k).1 ≠ 10 := fun h => hten (hr1.2 h)
        generalize (Utf8.decode s k).1 = dr at *
        generalize wd (s.data.toList.drop k) = ww at *
        have hdi : ((dr : Int) ≠ 10) := by omega
        gi_wp2
        go_roundw
        case rel => exact ⟨k + ww, b, pre, rfl, rfl, by omega, by omega, by omega, hit2, hbx2, hels, hJ2⟩
        case measure =>
          have hp4 : (wr.iterAt W.heap.size s (k + ww)).iterPos W.heap.size = k + ww := by simp only [World.iterPos, hit2]
          rw [hp4, hpos]
          omega
    · have hnx := fun ty => Lib.run_next_end_at (P := Tryz.prog) wr W.heap.size s k ty hit hlt
      have hke : k = s.size := by omega
      have hdn : s.data.toList.drop k = [] := List.drop_eq_nil_of_le (by omega)
      rw [hdn, lns] at hels
      have c2 := hbx.cell
      by_cases hb : b < s.size
      · have hne : (s.data.toList.drop b).take (k - b) ≠ [] := by
          intro e
          have := congrArg List.length e
          rw [List.length_take, List.length_drop, hlen] at this
          simp at this
          omega
        rw [if_neg hne, numd, numd] at hels
        obtain ⟨fn, tmps, assign, body, hy, hR⟩ := hY pre _ _ hJr ⟨_, hels⟩ ⟨_, hit, trivial⟩
        dsimp only [lineV] at hy
        rw [← extract_str, hke, Int.natCast_add, Int.natCast_one] at hy
        subst hke
        gi_wp2
        refine ⟨(fun h => by cases h), hR.mono ?_⟩
        rintro e W4 (⟨rfl, hJ4, hk4⟩ | ⟨ch, rfl, hJp4⟩)
        · gi_wp2
          go_end0
          exact .inl ⟨⟨_, rfl⟩, by rw [hels]; exact hJ4⟩
        · exact ⟨rfl, .inr ⟨_, _, _, _, rfl, hels, hJp4⟩⟩
      · have he : (s.data.toList.drop b).take (k - b) = [] := by
          have : k - b = 0 := by omega
          rw [this]
          rfl
        rw [if_pos he, numd, List.append_nil] at hels
        gi_wp2
        go_end0
        exact .inl ⟨⟨_, rfl⟩, by rw [hels]; exact hJr⟩
end Go.Proofs.YthmhcpghfbifiaaGreatDoor

/- What Parse and Decode of events do when they are left: the panic caught. -/
namespace Go.Proofs.YthmhcpghfbifiaaGreatDoor
open Go.RowKit

set_option maxRecDepth 100000 in
theorem pIdle6 (n : Nat) (p0 p1 : Addr) (w : World) :
    CallsDIn Fence.wide n Tryz.prog 19 #[.pointer (some p0), .pointer (some p1)] .returning w fun e u' w' => e = .returned (.tuple #[]) ∧ u' = .returning ∧ w' = w := by
  refine callsDIn_of_wpSIn Tryz.func19 rfl trivial fun c₀ cs hu => ?_
  apply wpSIn_seq
  apply wpSIn_region
  simp [wpOpsSIn, go_sem, recoverD, hu, Tryz.ntmps19, Exit.thenS, Fence.wide]
  refine wpSIn_of_wpIn rfl (wpIn_wide.2 ?_)
  go_wp2
  cases c₀
  simp_all [bodyPostS, results, Tryz.results19]
set_option maxRecDepth 100000 in
theorem dIdle6 (p0 p1 : Addr) (w : World) :
    CallsD Tryz.prog 35 #[.pointer (some p0), .pointer (some p1)] .returning w fun e u' w' => e = .returned (.tuple #[]) ∧ u' = .returning ∧ w' = w := by
  refine callsD_of_wpS Tryz.func35 rfl fun c₀ cs hu => ?_
  apply wpS_seq
  apply wpS_region
  simp [wpOpsS, go_sem, recoverD, hu, Tryz.ntmps35, Exit.thenS]
  refine wpS_of_wp ?_
  go_wp2
  cases c₀
  simp_all [bodyPostS, results, Tryz.results35]
theorem pcatch_end (w : World) (b0 b1 : Nat) (c o l m : Int) (hne : b0 ≠ b1) (x0 y0 y1 y2 y3 : Value) (f0 : w.heap[b0]? = some (.cells #[x0] 22 (0, 0))) (f1 : w.heap[b1]? = some (.cells #[y0, y1, y2, y3] 34 (0, 0))) (Y : World) (hY : Y = (((((w.setCell ⟨b0, 0, none⟩ (.slice none 0 0)).setCell ⟨b1, 0, none⟩ (.int .i64 c)).setCell ⟨b1, 1, none⟩ (.int .i64 o)).setCell ⟨b1, 2, none⟩ (.int .i64 l)).setCell ⟨b1, 3, none⟩ (.int .i64 m))) :
    Y.heap[b0]? = some (.cells #[.slice none 0 0] 22 (0, 0)) ∧ Y.heap[b1]? = some (.cells #[.int .i64 c, .int .i64 o, .int .i64 l, .int .i64 m] 34 (0, 0)) ∧ Y.heap.size = w.heap.size ∧ (∀ k, k ≠ b0 → k ≠ b1 → Y.heap[k]? = w.heap[k]?) ∧ Y.os = w.os ∧ Y.tape = w.tape ∧ Y.output = w.output := by
  have e : Y = putN (putN w b0 0 [.slice none 0 0]) b1 0 [.int .i64 c, .int .i64 o, .int .i64 l, .int .i64 m] := hY
  subst e
  have h1 := putN_at [.slice none 0 0] 0 w [x0] f0 rfl
  have h2 := putN_at [.int .i64 c, .int .i64 o, .int .i64 l, .int .i64 m] 0 _ [y0, y1, y2, y3] ((putN_other (b := b0) (Ne.symm hne) [.slice none 0 0] 0 w).trans f1) rfl
  have g1 := putN_grown (b := b0) [.slice none 0 0] 0 w
  have g2 := putN_grown (b := b1) [.int .i64 c, .int .i64 o, .int .i64 l, .int .i64 m] 0 (putN w b0 0 [.slice none 0 0])
  exact ⟨(putN_other hne _ _ _).trans h1, h2, by rw [putN_size, putN_size], fun k h0 h1 => (putN_other h1 _ _ _).trans (putN_other h0 _ _ _), g2.os.trans g1.os, g2.tape.trans g1.tape, g2.output.trans g1.output⟩
theorem dcatch_end (w : World) (b0 b1 : Nat) (c : Int) (hne : b0 ≠ b1) (x0 y0 : Value) (f0 : w.heap[b0]? = some (.cells #[x0] 22 (0, 0))) (f1 : w.heap[b1]? = some (.cells #[y0] 24 (0, 0))) (Y : World) (hY : Y = ((w.setCell ⟨b0, 0, none⟩ (.slice none 0 0)).setCell ⟨b1, 0, none⟩ (.int .i64 c))) :
    Y.heap[b0]? = some (.cells #[.slice none 0 0] 22 (0, 0)) ∧ Y.heap[b1]? = some (.cells #[.int .i64 c] 24 (0, 0)) ∧ Y.heap.size = w.heap.size ∧ (∀ k, k ≠ b0 → k ≠ b1 → Y.heap[k]? = w.heap[k]?) ∧ Y.os = w.os ∧ Y.tape = w.tape ∧ Y.output = w.output := by
  have e : Y = putN (putN w b0 0 [.slice none 0 0]) b1 0 [.int .i64 c] := hY
  subst e
  have h1 := putN_at [.slice none 0 0] 0 w [x0] f0 rfl
  have h2 := putN_at [.int .i64 c] 0 _ [y0] ((putN_other (b := b0) (Ne.symm hne) [.slice none 0 0] 0 w).trans f1) rfl
  have g1 := putN_grown (b := b0) [.slice none 0 0] 0 w
  have g2 := putN_grown (b := b1) [.int .i64 c] 0 (putN w b0 0 [.slice none 0 0])
  exact ⟨(putN_other hne _ _ _).trans h1, h2, by rw [putN_size, putN_size], fun k h0 h1 => (putN_other h1 _ _ _).trans (putN_other h0 _ _ _), g2.os.trans g1.os, g2.tape.trans g1.tape, g2.output.trans g1.output⟩
set_option maxRecDepth 100000 in
theorem pCatch6 (n : Nat) (b0 b1 : Nat) (w : World) (c o l m : Int) (hne : b0 ≠ b1) (f0 : ∃ x, w.heap[b0]? = some (.cells #[x] 22 (0, 0))) (f1 : w.heap[b1]? = some (.cells fz 34 (0, 0))) :
    CallsDIn Fence.wide n Tryz.prog 19 #[.pointer (some ⟨b0, 0, none⟩), .pointer (some ⟨b1, 0, none⟩)] (.panicking [{ v := .iface 34 (.agg #[.int .i64 c, .int .i64 o, .int .i64 l, .int .i64 m]), recovered := false }]) w fun e u' w' =>
      e = .returned (.tuple #[]) ∧ u' = .panicking [{ v := .iface 34 (.agg #[.int .i64 c, .int .i64 o, .int .i64 l, .int .i64 m]), recovered := true }] ∧
      w'.heap[b0]? = some (.cells #[.slice none 0 0] 22 (0, 0)) ∧ w'.heap[b1]? = some (.cells #[.int .i64 c, .int .i64 o, .int .i64 l, .int .i64 m] 34 (0, 0)) ∧ w'.heap.size = w.heap.size ∧ (∀ k, k ≠ b0 → k ≠ b1 → w'.heap[k]? = w.heap[k]?) ∧ w'.os = w.os ∧ w'.tape = w.tape ∧ w'.output = w.output := by
  obtain ⟨x, f0⟩ := f0
  have u0 := cells_at f0 0 _ rfl
  have uz0 := frozen_at f0 0
  have v0 := cells_at f1 0 _ rfl
  have vz0 := frozen_at f1 0
  have v1 := cells_at f1 1 _ rfl
  have vz1 := frozen_at f1 1
  have v2 := cells_at f1 2 _ rfl
  have vz2 := frozen_at f1 2
  have v3 := cells_at f1 3 _ rfl
  have vz3 := frozen_at f1 3
  have F0 := hide f0
  have F1 := hide f1
  have hne' : b1 ≠ b0 := fun e => hne e.symm
  have hta : ∀ w : World, (Instr.typeAssert (.iface 34 (.agg #[.int .i64 c, .int .i64 o, .int .i64 l, .int .i64 m])) 20 34 false).run Tryz.prog w = .ok (.agg #[.int .i64 c, .int .i64 o, .int .i64 l, .int .i64 m]) w := fun _ => by kernel_rfl
  clear f0 f1
  refine callsDIn_of_wpSIn Tryz.func19 rfl trivial fun c₀ cs hu => ?_
  apply wpSIn_seq
  apply wpSIn_region
  simp [wpOpsSIn, go_sem, recoverD, hu, Tryz.ntmps19, Exit.thenS, Fence.wide]
  refine wpSIn_of_wpIn rfl (wpIn_wide.2 ?_)
  go_wp2
  simp only [Array.replicate_succ, Array.replicate_zero, List.push_toArray, List.nil_append, List.cons_append, List.setIfInBounds_toArray, List.set_cons_zero, List.set_cons_succ, List.append_toArray]
  go_region
  have E := pcatch_end w b0 b1 c o l m hne _ _ _ _ _ F0.out F1.out _ rfl
  generalize (((((w.setCell ⟨b0, 0, none⟩ (.slice none 0 0)).setCell ⟨b1, 0, none⟩ (.int .i64 c)).setCell ⟨b1, 1, none⟩ (.int .i64 o)).setCell ⟨b1, 2, none⟩ (.int .i64 l)).setCell ⟨b1, 3, none⟩ (.int .i64 m)) = Y at E ⊢
  obtain ⟨q1, q2, q3, q4, q5, q6, q7⟩ := E
  refine ⟨rfl, _, rfl, .tuple #[], by simp [results, Tryz.results19], rfl, rfl, q1, q2, q3, q4, q5, q6, q7⟩
set_option maxRecDepth 100000 in
theorem dCatch6 (b0 b1 : Nat) (w : World) (c : Int) (hne : b0 ≠ b1) (f0 : ∃ x, w.heap[b0]? = some (.cells #[x] 22 (0, 0))) (f1 : ∃ y, w.heap[b1]? = some (.cells #[y] 24 (0, 0))) :
    CallsD Tryz.prog 35 #[.pointer (some ⟨b0, 0, none⟩), .pointer (some ⟨b1, 0, none⟩)] (.panicking [{ v := .iface 24 (.int .i64 c), recovered := false }]) w fun e u' w' =>
      e = .returned (.tuple #[]) ∧ u' = .panicking [{ v := .iface 24 (.int .i64 c), recovered := true }] ∧
      w'.heap[b0]? = some (.cells #[.slice none 0 0] 22 (0, 0)) ∧ w'.heap[b1]? = some (.cells #[.int .i64 c] 24 (0, 0)) ∧ w'.heap.size = w.heap.size ∧ (∀ k, k ≠ b0 → k ≠ b1 → w'.heap[k]? = w.heap[k]?) ∧ w'.os = w.os ∧ w'.tape = w.tape ∧ w'.output = w.output := by
  obtain ⟨x, f0⟩ := f0
  obtain ⟨y, f1⟩ := f1
  have u0 := cells_at f0 0 _ rfl
  have uz0 := frozen_at f0 0
  have v0 := cells_at f1 0 _ rfl
  have vz0 := frozen_at f1 0
  have F0 := hide f0
  have F1 := hide f1
  have hne' : b1 ≠ b0 := fun e => hne e.symm
  have hta : ∀ w : World, (Instr.typeAssert (.iface 24 (.int .i64 c)) 20 24 false).run Tryz.prog w = .ok (.int .i64 c) w := fun _ => by kernel_rfl
  clear f0 f1
  refine callsD_of_wpS Tryz.func35 rfl fun c₀ cs hu => ?_
  apply wpS_seq
  apply wpS_region
  simp [wpOpsS, go_sem, recoverD, hu, Tryz.ntmps35, Exit.thenS]
  refine wpS_of_wp ?_
  go_wp2
  simp only [Array.replicate_succ, Array.replicate_zero, List.push_toArray, List.nil_append, List.cons_append, List.setIfInBounds_toArray, List.set_cons_zero, List.set_cons_succ, List.append_toArray]
  go_region
  have E := dcatch_end w b0 b1 c hne _ _ F0.out F1.out _ rfl
  generalize ((w.setCell ⟨b0, 0, none⟩ (.slice none 0 0)).setCell ⟨b1, 0, none⟩ (.int .i64 c)) = Y at E ⊢
  obtain ⟨q1, q2, q3, q4, q5, q6, q7⟩ := E
  refine ⟨rfl, _, rfl, .tuple #[], by simp [results, Tryz.results35], rfl, rfl, q1, q2, q3, q4, q5, q6, q7⟩
end Go.Proofs.YthmhcpghfbifiaaGreatDoor

/- What a line says ahead of its remark. -/
namespace Go.Proofs.YthmhcpghfbifiaaGreatDoor
open Go.RowKit

set_option maxRecDepth 100000 in
set_option maxHeartbeats 2000000 in
theorem ahead_k (s : ByteArray) (_hs : s.size ≤ 1048576) (w : World) :
    Calls Tryz.prog 21 #[.string s] w fun e w' => e = .returned (.string (str (aheadL s.data.toList))) ∧ Below w.heap.size w w' := by
  have hrg := fun w' => run_range_string (P := Tryz.prog) w' 9 s Tryz.underlying9
  have hlen : s.data.toList.length = s.size := by rw [Array.length_toList]; rfl
  go_enter Tryz.func21, Tryz.ntmps21
  go_wp2
  go_loopw [3, 4] (fun _ _ wr => ∃ k : Nat, k ≤ s.size ∧ aheadL s.data.toList = s.data.toList.take k ++ aheadL (s.data.toList.drop k) ∧ wr.heap[w.heap.size]? = some (.stringIter s k) ∧ Below w.heap.size w wr)
    (fun _ _ wr => s.size - wr.iterPos w.heap.size)
  case atStart => exact ⟨0, Nat.zero_le _, by simp, World.iter_heap w s 0, (Below.refl _ w).alloc (Nat.le_refl _) _⟩
  case round =>
    obtain ⟨k, hk, hah, hit, hbel⟩ := hrel
    have hpos : wr.iterPos w.heap.size = k := by simp [World.iterPos, hit]
    clear hrg
    by_cases hlt : k < s.size
    · have hnx := fun ty => Lib.run_next_any_at (P := Tryz.prog) wr w.heap.size s k ty hit hlt
      rw [wd_dec] at hnx
      have h1 := wd_pos (s.data.toList.drop k)
      have h2 := wd_room s k hlt
      have hit2 := Lib.iterAt_heap wr w.heap.size s k (k + wd (s.data.toList.drop k)) hit
      have hbel2 := Lib.below_iterAt hbel (k := w.heap.size) (Nat.le_refl _) s (k + wd (s.data.toList.drop k))
      have hr35 : rv (s.data.toList.drop k) = 35 ↔ ((Utf8.decode s k).1 : Int) = 35 := by
        unfold rv
        rw [Lib.decodeL_drop s k]
        split <;> omega
      by_cases h35 : rv (s.data.toList.drop k) = 35
      · have hfin : aheadL s.data.toList = s.data.toList.take k := by rw [hah, ahead_35 _ (drop_ne s k hlt) h35, List.append_nil]
        have hext : s.extract 0 k = str (s.data.toList.take k) := by rw [extract_str]; simp
        have hk0 : (0 : Int) ≤ (k : Int) := by omega
        rw [hr35] at h35
        have HF := hide hfin
        clear hr35 hah hfin
        generalize (Utf8.decode s k).1 = dr at *
        generalize wd (s.data.toList.drop k) = ww at *
        have hdr : dr = 35 := by omega
        subst hdr
        clear h35
        go_wp2
        go_ret
        exact ⟨by rw [HF.out]; rfl, hbel2⟩
      · rw [ahead_rune _ (drop_ne s k hlt) h35, List.drop_drop] at hah
        rw [hr35] at h35
        have hcat : s.data.toList.take (k + wd (s.data.toList.drop k)) = s.data.toList.take k ++ (s.data.toList.drop k).take (wd (s.data.toList.drop k)) := List.take_add ..
        rw [← List.append_assoc, ← hcat] at hah
        clear hr35 hcat
        generalize (Utf8.decode s k).1 = dr at *
        generalize wd (s.data.toList.drop k) = ww at *
        go_wp2
        go_roundw
        case rel => exact ⟨k + ww, h2, hah, hit2, hbel2⟩
        case measure =>
          have hp : (wr.iterAt w.heap.size s (k + ww)).iterPos w.heap.size = k + ww := by simp only [World.iterPos, hit2]
          rw [hp, hpos]
          omega
    · have hnx := fun ty => Lib.run_next_end_at (P := Tryz.prog) wr w.heap.size s k ty hit hlt
      have hfin : aheadL s.data.toList = s.data.toList := by
        rw [drop_end s k hlt] at hah
        rw [hah, List.take_of_length_le (by omega)]
        simp [aheadL]
      have HF := hide hfin
      clear hfin
      go_wp2
      go_ret
      exact ⟨by rw [HF.out, str_bytes]; rfl, hbel⟩
end Go.Proofs.YthmhcpghfbifiaaGreatDoor

/- A region that draws its order, within a round: what is shown of it anywhere holds there. -/
namespace Go.Proofs.YthmhcpghfbifiaaGreatDoor
open Go.RowKit

theorem opIn_of_wp {P : Program} {l n : Nat} {o : Oper} {a : Act} {w : World} {K : Act → World → Prop} {Q : Exit → Act → World → Prop} (hd : ∀ c, o.op ≠ .defer c) (h : o.wp P a w K Q) : o.wpIn (Fence.wide.inRound l) n P a w K Q := by
  refine ⟨fun f _ => trivial, ?_⟩
  have e : o.semAt (Fence.wide.inRound l).round a.eval = execOp a.eval o := Oper.semAt_some l _ _ hd
  rw [e]
  unfold Oper.wp at h
  generalize (execOp a.eval o).run P w = r at h ⊢
  cases r with
  | ok v w' =>
    cases v with
    | value v => exact h
    | skip => exact h
    | defer d => exact h
    | enter f args => exact ⟨fun h => (by cases h), CallsIn.inRound l (callsIn_wide.2 h)⟩
    | row r args => exact ⟨fun h => (by cases h), fun c cs _ => let ⟨v, w', r, s⟩ := h c cs; ⟨v, w', r, stepsIn_wide.2 s⟩⟩
    | _ => exact h.elim
  | halt x w' =>
    cases x with
    | panic v => exact h
    | _ => exact h.elim
def noDefer (ops : Array Oper) : Bool := ops.toList.all fun o => match o.op with
  | .defer _ => false
  | _ => true
theorem noDefer_spec {ops : Array Oper} (h : noDefer ops = true) {i : Nat} {o : Oper} (hi : ops[i]? = some o) : ∀ c, o.op ≠ .defer c := by
  intro c e
  have hm : o ∈ ops.toList := (Array.mem_of_getElem? hi).val
  have := List.all_eq_true.1 h o hm
  rw [e] at this
  cases this
theorem wpOpIn_of {P : Program} {l n : Nat} {ops : Array Oper} {Q : Exit → Act → World → Prop} (hd : noDefer ops = true) (hno : ¬ LetsOut Q) {i : Nat} {K : Act → World → Prop} {a : Act} {w : World} (h : wpOp P ops Q i K a w) : wpOpIn (Fence.wide.inRound l) n P ops Q i K a w := by
  unfold wpOp at h
  unfold wpOpIn
  cases hi : ops[i]? with
  | none => rw [hi] at h; exact h
  | some o =>
    rw [hi] at h
    dsimp only at h ⊢
    by_cases hw : Region.wanted o (yielded ops a.tmps) = true
    · rw [if_pos hw] at h ⊢
      rcases h with h | h
      · exact opIn_of_wp (noDefer_spec hd hi) h
      · exact absurd h.2 hno
    · rw [if_neg hw] at h ⊢
      exact ⟨fun f _ => trivial, h⟩
theorem wpAnyIn_of {P : Program} {l n : Nat} {md : Region.Mode} {ops : Array Oper} {Q : Exit → Act → World → Prop} (hd : noDefer ops = true) (hno : ¬ LetsOut Q) : ∀ (fuel : Nat) (listed : Array Bool) (a : Act) (w : World), wpAny P md ops Q fuel listed a w → wpAnyIn (Fence.wide.inRound l) n P md ops Q fuel listed a w
  | 0, _, _, _, h => h
  | fuel + 1, _, _, _, h => ⟨h.1, fun i hi => wpOpIn_mono (fun a' w' h' => wpAnyIn_of hd hno fuel _ a' w' h') (wpOpIn_of hd hno (h.2 i hi))⟩
theorem wpIn_region_G {P : Program} {l m : Nat} {ops : Array Oper} {Q : Exit → Act → World → Prop} {id : Nat} {a : Act} {w : World} (n : Nat) (S : World → Prop) (hm : P.follows .mixedOrders = true) (hn : ops.size = n) (hd : noDefer ops = true) (hno : ¬ LetsOut Q)
    (h : wpAnyG P .any ops Q S n (Array.replicate n false) a w.drew) : (Code.region id ops true).wpIn (Fence.wide.inRound l) m P Q a w := by
  subst hn
  exact wpIn_region_any hm (wpAnyIn_of hd hno _ _ _ _ (wpAny_of_G _ _ _ _ h))
theorem wpIn_region_F {P : Program} {l m : Nat} {ops : Array Oper} {Q : Exit → Act → World → Prop} {id : Nat} {a : Act} {w : World} (s n : Nat) (S : World → Prop) (hm : P.follows .mixedOrders = true) (hn : ops.size = n) (hd : noDefer ops = true) (hno : ¬ LetsOut Q) (h1 : Region.sinkB .any ops s = true) (h2 : Region.chainB .any ops s = true) (h3 : s < n) (h4 : Region.noSelect ops = true)
    (h : SunkF .any ops s → HeadInv .any ops s (Array.replicate n false) → wpAnyF P .any ops Q S s n (Array.replicate n false) a w.drew) : (Code.region id ops true).wpIn (Fence.wide.inRound l) m P Q a w := by
  subst hn
  exact wpIn_region_any hm (wpAnyIn_of hd hno _ _ _ _ (wpAny_of_F _ _ _ _ (h ⟨h1, h2, h3, h4⟩ ⟨by simp, fun j oj _ hl => (by rw [getD_replicate_false] at hl; cases hl), fun t _ ht => getD_in (by simpa using ht) (getD_replicate_false _ _)⟩)))
end Go.Proofs.YthmhcpghfbifiaaGreatDoor

/- Rows of events in the making, while a loop goes on elsewhere. -/
namespace Go.Proofs.YthmhcpghfbifiaaGreatDoor
open Go.RowKit

theorem ItemsIn.pos {w w' : World} {S S' : Nat → Prop} (hk : ∀ b o v, S b → w.cell? ⟨b, o, none⟩ = some v → w'.cell? ⟨b, o, none⟩ = some v) (hS : ∀ b, S b → S' b) : ∀ {n : Nat} {sl : Value} {its : List Vl}, ItemsIn w S n sl its → ItemsIn w' S' n sl its
  | 0, _, _, h => h.elim
  | n + 1, _, its, h => by
    obtain ⟨a, c, e, hl, hc⟩ := h
    refine ⟨a, c, e, hl, fun j hj => ?_⟩
    obtain ⟨b, off, s', e, hb, h0, h1, h2, h3, h4, h5, h6⟩ := hc j hj
    exact ⟨b, off, s', e, hS _ hb, hk _ _ _ hb h0, hk _ _ _ hb h1, hk _ _ _ hb h2, hk _ _ _ hb h3, hk _ _ _ hb h4, ItemsIn.pos hk hS h5, h6⟩
theorem cell_isCells {w : World} {b o : Nat} {v : Value} (h : w.cell? ⟨b, o, none⟩ = some v) {x : Obj} (hx : w.heap[b]? = some x) : x.isCells = true := by
  unfold World.cell? at h
  rw [show (⟨b, o, none⟩ : Addr).block = b from rfl, hx] at h
  cases x <;> first | rfl | (simp at h)
theorem EvMk.other {w w' : World} {L n : Nat} {v : Value} {l : List Evn} {row : Option Nat} (h : EvMk w L n v l) (g : w.grownBy w' row) (hr : ∀ r, row = some r → r < L ∨ ∃ o : Obj, w.heap[r]? = some o ∧ o.isCells = false) : EvMk w' L n v l := by
  obtain ⟨E, hE, hrow, hi⟩ := h
  refine ⟨E, hE, ?_, fun x hx => ⟨(hi x hx).1.pos (fun b o u hb hu => ?_) (fun b hb => ⟨hb.1, Nat.lt_of_lt_of_le hb.2.1 g.size, hb.2.2⟩), (hi x hx).2⟩⟩
  · refine ⟨hrow.1, ?_⟩
    rcases hrow.2 with hn | ⟨q, cap, cur, rfl, hbg, hgb, rest⟩
    · exact .inl hn
    · refine .inr ⟨q, cap, cur, rfl, hbg, (g.block q (Array.getElem?_eq_some_iff.1 hgb).1 fun e => ?_).trans hgb, rest⟩
      rcases hr q e.symm with h | ⟨o, ho, hc⟩
      · omega
      · rw [hgb] at ho
        cases ho
        cases hc
  · refine (World.cell?_of_block (g.block b hb.2.1 fun e => ?_)).trans hu
    rcases hr b e.symm with h | ⟨x, hx', hc⟩
    · have := hb.1
      omega
    · rw [cell_isCells hu hx'] at hc
      cases hc
theorem wpAt_block {F : Fence} {n : Nat} {P : Program} {f0 : FuncId} {id : Nat} {c : Code} {Q : Exit → Act → World → Prop} {a : Act} {w : World} (h : Code.wpAt F n P f0 c (Exit.inBlock id Q) a w) : Code.wpAt F n P f0 (.block id c) Q a w := by
  intro b k cs hf hro hb hr
  have h0 : (lone (b.atR a (.code (.block id c) :: k)) cs w).fenced P F := fenced_calm hb hr rfl
  obtain ⟨e, a₁, w₁, hq, harr⟩ := h b (.inBlock id :: k) cs hf hro hb hr
  cases e with
  | normal => exact ⟨.normal, a₁, w₁, hq, .head h0 stepR_block (StepsIn.trans harr (.one (fenced_calm hb hr rfl) stepR_inBlock))⟩
  | exit id' =>
    by_cases hid : id' = id
    · simp only [Exit.inBlock, hid, if_true] at hq
      exact ⟨.normal, a₁, w₁, hq, .head h0 stepR_block (harr.1 k (by simp [exitTo, hid]))⟩
    · simp only [Exit.inBlock, hid, if_false] at hq
      have this : (id == id') = false := by simp; exact fun h => hid h.symm
      have hx : exitTo id' (.inBlock id :: k) = exitTo id' k := by simp [exitTo, this]
      exact ⟨.exit id', a₁, w₁, hq, fun k' hk => .head h0 stepR_block (harr.1 k' (by rw [hx]; exact hk)),
        fun hr' hk => let ⟨k₁, h1, h2⟩ := harr.2 hr' (by rw [hx]; exact hk); ⟨k₁, h1, .head h0 stepR_block h2⟩⟩
  | goto l =>
    have hx : gotoIn l (.inBlock id :: k) = gotoIn l k := by simp [gotoIn]
    exact ⟨_, a₁, w₁, hq, fun k' hk => .head h0 stepR_block (harr.1 k' (by rw [hx]; exact hk)),
      fun hr' hk => let ⟨k₁, h1, h2⟩ := harr.2 hr' (by rw [hx]; exact hk); ⟨k₁, h1, .head h0 stepR_block h2⟩⟩
  | ret => exact ⟨_, a₁, w₁, hq, .of_steps (.one h0 stepR_block) harr⟩
  | panic ch => exact ⟨_, a₁, w₁, hq, .of_steps (.one h0 stepR_block) harr⟩
  | outgrown => exact ⟨_, a₁, w₁, hq, .of_steps (.one h0 stepR_block) harr⟩
/-- What holds of Parse's own variables ahead of a round. -/
structure PaI (w : World) (s : List UInt8) (st : Nat) (acc : List Evn) (v : Value) (W : World) : Prop where
  text : W.heap[w.heap.size]? = some (.cells #[.string (str s)] 9 (0, 0))
  evs : W.heap[w.heap.size + 1]? = some (.cells #[v] 22 (0, 0))
  fault : W.heap[w.heap.size + 2]? = some (.cells fz 34 (0, 0))
  start : W.heap[w.heap.size + 3]? = some (.cells #[.int .i64 st] 3 (0, 0))
  mkg : EvMk W (w.heap.size + 8) 16 v acc
  low : Below w.heap.size w W
theorem PaI.other {w W W' : World} {s : List UInt8} {st : Nat} {acc : List Evn} {v : Value} {row : Option Nat} (h : PaI w s st acc v W) (g : W.grownBy W' row) (hr : ∀ r, row = some r → w.heap.size + 5 ≤ r ∧ (r < w.heap.size + 8 ∨ ∃ o : Obj, W.heap[r]? = some o ∧ o.isCells = false)) : PaI w s st acc v W' := by
  have hk : ∀ k, k < w.heap.size + 5 → k < W.heap.size → W'.heap[k]? = W.heap[k]? := fun k h1 h2 => g.block k h2 fun e => by have := (hr k e.symm).1; omega
  have lt : ∀ {k : Nat} {o : Obj}, W.heap[k]? = some o → k < W.heap.size := fun e => (Array.getElem?_eq_some_iff.1 e).1
  exact ⟨(hk _ (by omega) (lt h.text)).trans h.text, (hk _ (by omega) (lt h.evs)).trans h.evs, (hk _ (by omega) (lt h.fault)).trans h.fault, (hk _ (by omega) (lt h.start)).trans h.start, h.mkg.other g (fun r e => (hr r e).2), h.low.grown g (by have := h.low.size; omega) (fun r e => by have := (hr r e).1; omega)⟩
theorem EvMk.rowCells {w : World} {L n : Nat} {v : Value} {l : List Evn} (h : EvMk w L n v l) {b : Nat} (e : v.ownBlock = some b) : ∃ o : Obj, w.heap[b]? = some o ∧ o.isCells = true := by
  obtain ⟨E, hE, hrow, hi⟩ := h
  rcases hrow.2 with ⟨rfl, _⟩ | ⟨q, cap, cur, rfl, hbg, hgb, rest⟩
  · cases e
  · cases e
    exact ⟨_, hgb, rfl⟩
theorem pa_none {w W₂ U : World} {s : List UInt8} {st : Nat} {acc : List Evn} {v : Value} (hJ : PaI w s st acc v W₂) (b : Below W₂.heap.size W₂ U) (hA : w.heap.size + 8 ≤ W₂.heap.size) (st' : Nat) :
    Kept (w.heap.size + 5) (w.heap.size + 4) (w.heap.size + 7) W₂ (U.setCell ⟨w.heap.size + 3, 0, none⟩ (.int .i64 st')) ∧ PaI w s st' acc v (U.setCell ⟨w.heap.size + 3, 0, none⟩ (.int .i64 st')) := by
  have hk : ∀ k, k < W₂.heap.size → k ≠ w.heap.size + 3 → (U.setCell ⟨w.heap.size + 3, 0, none⟩ (.int .i64 st')).heap[k]? = W₂.heap[k]? := fun k h1 h2 => (Below.heap_setCell _ _ _ _ h2).trans (b.block k h1)
  have hz : (U.setCell ⟨w.heap.size + 3, 0, none⟩ (.int .i64 st')).heap.size = U.heap.size := by simp [World.setCell]
  have lt : ∀ {k : Nat} {o : Obj}, W₂.heap[k]? = some o → k < W₂.heap.size := fun e => (Array.getElem?_eq_some_iff.1 e).1
  refine ⟨⟨by rw [hz]; exact b.size, fun k o h1 h2 _ => (hk k (lt h2) (by omega)).trans h2, fun o h2 => (hk _ (lt h2) (by omega)).trans h2, fun o h2 => (hk _ (lt h2) (by omega)).trans h2⟩, ?_⟩
  exact ⟨(hk _ (lt hJ.text) (by omega)).trans hJ.text, (hk _ (lt hJ.evs) (by omega)).trans hJ.evs, (hk _ (lt hJ.fault) (by omega)).trans hJ.fault, heap_setCell_same _ _ 0 _ _ _ ((b.block _ (lt hJ.start)).trans hJ.start),
    hJ.mkg.far (by rw [hz]; exact b.size) (fun k h1 h2 => hk k h2 (by omega)), (hJ.low.trans (b.mono (by omega))).setCell (p := ⟨w.heap.size + 3, 0, none⟩) (by show w.heap.size ≤ w.heap.size + 3; omega) _⟩
theorem pa_more {w W₂ U W : World} {s : List UInt8} {st : Nat} {acc acc' : List Evn} {v v' : Value} (hJ : PaI w s st acc v W₂) (b : Below W₂.heap.size W₂ U) (g : U.grownBy W v.ownBlock) (mk : EvMk W (w.heap.size + 8) 16 v' acc') (hA : w.heap.size + 8 ≤ W₂.heap.size) (st' : Nat) :
    Kept (w.heap.size + 5) (w.heap.size + 4) (w.heap.size + 7) W₂ ((W.setCell ⟨w.heap.size + 1, 0, none⟩ v').setCell ⟨w.heap.size + 3, 0, none⟩ (.int .i64 st')) ∧ PaI w s st' acc' v' ((W.setCell ⟨w.heap.size + 1, 0, none⟩ v').setCell ⟨w.heap.size + 3, 0, none⟩ (.int .i64 st')) := by
  have ho : ∀ {q : Nat}, v.ownBlock = some q → w.heap.size + 8 ≤ q := fun e => (hJ.mkg.lt e).1
  have hk : ∀ k, k < W₂.heap.size → k ≠ w.heap.size + 1 → k ≠ w.heap.size + 3 → some k ≠ v.ownBlock → ((W.setCell ⟨w.heap.size + 1, 0, none⟩ v').setCell ⟨w.heap.size + 3, 0, none⟩ (.int .i64 st')).heap[k]? = W₂.heap[k]? := fun k h1 h2 h3 h4 =>
    (Below.heap_setCell _ _ _ _ h3).trans ((Below.heap_setCell _ _ _ _ h2).trans ((g.block k (Nat.lt_of_lt_of_le h1 b.size) h4).trans (b.block k h1)))
  have hz : ((W.setCell ⟨w.heap.size + 1, 0, none⟩ v').setCell ⟨w.heap.size + 3, 0, none⟩ (.int .i64 st')).heap.size = W.heap.size := by simp [World.setCell]
  have lt : ∀ {k : Nat} {o : Obj}, W₂.heap[k]? = some o → k < W₂.heap.size := fun e => (Array.getElem?_eq_some_iff.1 e).1
  have no : ∀ k, k < w.heap.size + 8 → some k ≠ v.ownBlock := fun k hk e => by have := ho e.symm; omega
  have e1 : W.heap[w.heap.size + 1]? = some (.cells #[v] 22 (0, 0)) := (g.block _ (by have := b.size; omega) (no _ (by omega))).trans ((b.block _ (lt hJ.evs)).trans hJ.evs)
  have e3 : W.heap[w.heap.size + 3]? = some (.cells #[.int .i64 st] 3 (0, 0)) := (g.block _ (by have := b.size; omega) (no _ (by omega))).trans ((b.block _ (lt hJ.start)).trans hJ.start)
  refine ⟨⟨by rw [hz]; exact Nat.le_trans b.size g.size, fun k o h1 h2 h3 => (hk k (lt h2) (by omega) (by omega) (fun e => ?_)).trans h2, fun o h2 => (hk _ (lt h2) (by omega) (by omega) (no _ (by omega))).trans h2, fun o h2 => (hk _ (lt h2) (by omega) (by omega) (no _ (by omega))).trans h2⟩, ?_⟩
  · obtain ⟨o', k1, k2⟩ := hJ.mkg.rowCells e.symm
    rw [h2] at k1
    cases k1
    rw [h3] at k2
    cases k2
  · refine ⟨(hk _ (lt hJ.text) (by omega) (by omega) (no _ (by omega))).trans hJ.text, (Below.heap_setCell _ _ _ _ (by show w.heap.size + 1 ≠ w.heap.size + 3; omega)).trans (heap_setCell_same _ _ 0 _ _ _ e1), (hk _ (lt hJ.fault) (by omega) (by omega) (no _ (by omega))).trans hJ.fault, heap_setCell_same _ _ 0 _ _ _ ((Below.heap_setCell _ _ _ _ (by show w.heap.size + 3 ≠ w.heap.size + 1; omega)).trans e3),
      mk.far (by rw [hz]; exact Nat.le_refl _) (fun k h1 h2 => (Below.heap_setCell _ _ _ _ (by show k ≠ w.heap.size + 3; omega)).trans (Below.heap_setCell _ _ _ _ (by show k ≠ w.heap.size + 1; omega))), ?_⟩
    have h1 := (hJ.low.trans (b.mono (by omega))).grown g (by have := b.size; omega) (fun q e => by have := ho e; omega)
    exact (h1.setCell (p := ⟨w.heap.size + 1, 0, none⟩) (by show w.heap.size ≤ w.heap.size + 1; omega) _).setCell (p := ⟨w.heap.size + 3, 0, none⟩) (by show w.heap.size ≤ w.heap.size + 3; omega) _
theorem kept_below {B sb A : Nat} {W U : World} (b : Below W.heap.size W U) : Kept B sb A W U := Kept.grown (row := none) (grown_of_below b) (fun _ e => by cases e)
end Go.Proofs.YthmhcpghfbifiaaGreatDoor
