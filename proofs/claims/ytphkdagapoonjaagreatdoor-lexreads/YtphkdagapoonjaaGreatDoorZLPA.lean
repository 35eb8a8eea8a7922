/- A range over a function whose rounds may panic; of no program; internal/strconv.ParseUint at base 16 of 31 bits, of any text; strconv.ParseUint there; lex.scalar; strconv.ParseUint at base 16 of 31 bits; lex.scalar. -/
import Derived.RangeFuncNested
import Derived.RangeFuncBound
import Derived.RangeFuncCalls
import Derived.RangeFuncLeaves
import Derived.RangeFuncBox
import Derived.Test.YtphkdagapoonjaaGreatDoorZLSC
import Derived.Laws.BitsAllLaws
import Derived.Lib.ConvBytes
import Derived.RegionTactic
import Derived.Lib.IfaceEq
import Derived.BigQuiet
namespace Go.Proofs.YtphkdagapoonjaaGreatDoor.Lx
open Go.RowKit
set_option linter.unusedVariables false
variable {F : Fence} {n : Nat} {P : Program}

/-- How a round may end: off its end, or by a panic. -/
def endP (P : Program) (l : Nat) (R : Ending → World → Prop) : Exit → Act → World → Prop
  | .normal, _, w => ∃ v w', (Instr.endRound l none).run P w = .ok v w' ∧ R (.returned v) w'
  | .panic ch, a, w => a.defers = [] ∧ R (.panicked ch) w
  | _, _, _ => False
theorem round_panics {l : Nat} {f : FuncId} {tmps : Array Value} {assign body : Code} {w : World} {R : Ending → World → Prop} (hF : F.fn f) (hfn : ∃ fn, P.funcs[f]? = some fn)
    (h : assign.wpIn (F.inRound l) n P (Exit.then (fun a₁ w₁ => ∃ w₂, (Instr.beginRound l).run P w₁ = .ok () w₂ ∧ body.wpIn (F.inRound l) n P (endP P l R) a₁ w₂) (fun _ _ _ => False)) { tmps := tmps, defers := [] } w) :
    RoundIn F n P l f tmps assign body w R := by
  refine ⟨hF, fun c cs hr => ?_⟩
  let b : Frame := { (default : Frame) with fn := f, kind := .normal, roundOf := some l }
  have hb0 : Frame.round l f tmps assign body .normal = b.atR { tmps := tmps, defers := [] } [.code assign, .beginRound, .code body] := by
    simp [Frame.round, Frame.atR, b]
  have hr' : (F.inRound l).room ((c :: cs).length + 1 + n) := hr
  have hF' : (F.inRound l).fn b.fn := hF
  obtain ⟨e, a₁, w₁, hq, harr⟩ := h b [.beginRound, .code body] (c :: cs) rfl hF' hr'
  rw [← hb0] at harr
  cases e with
  | normal =>
    obtain ⟨w₂, hbr, hbody⟩ := hq
    have s1 : StepsIn (Machine.fenced P (F.inRound l)) P (lone (b.atR a₁ [.beginRound, .code body]) (c :: cs) w₁) (lone (b.atR a₁ [.code body]) (c :: cs) w₂) :=
      .one (fenced_calm (fr := b.atR a₁ [.beginRound, .code body]) hF' hr' rfl) (stepR_beginRound rfl hbr)
    obtain ⟨e₂, a₂, w₃, hq₂, harr₂⟩ := hbody b [] (c :: cs) rfl hF' hr'
    cases e₂ with
    | normal =>
      obtain ⟨v, w₄, hend, hR⟩ := hq₂
      exact ⟨.returned v, w₄, hR, (StepsIn.trans harr s1).trans (StepsIn.trans harr₂ (.one (fenced_calm (fr := b.atR a₂ []) hF' hr' rfl) (stepR_round_end rfl rfl hend)))⟩
    | panic chain =>
      obtain ⟨hd, hR⟩ := hq₂
      obtain ⟨todo, hs⟩ := harr₂
      have hl : Frame.leaving P { b.atR a₂ todo with mode := .panicking chain } w₃ (.panicked chain) := ⟨rfl, hd, hfn⟩
      exact ⟨.panicked chain, w₃, hR, (StepsIn.trans harr s1).trans (StepsIn.trans hs (.one (fenced_leaving (F := F.inRound l) (n := n) hF' hr' hl) (step_leave_panicked hl)))⟩
    | ret => exact hq₂.elim
    | exit id => exact hq₂.elim
    | goto t => exact hq₂.elim
    | outgrown => exact hq₂.elim
  | exit id => exact hq.elim
  | goto t => exact hq.elim
  | ret => exact hq.elim
  | panic chain => exact hq.elim
  | outgrown => exact hq.elim
/-- An iterator that hands over just these, one behind the other, till a round panics. -/
def Hands {α : Type} (F : Fence) (n : Nat) (P : Program) (g : Nat) (lb : Array Value) (encs : α → Array Value) (xs : List α) (w : World) (K : World → Prop) : Prop :=
  ∀ (l : Nat) (J : Nat → World → Prop) (Jp : List PanicEntry → World → Prop) (W : World), Below w.heap.size w W → AbidesFrom W.heap.size J → (∀ i W1, J i W1 → K W1) →
    (∀ i x W1, xs[i]? = some x → J i W1 → YieldAt F (n - 1) P l (encs x) W1 fun e W' =>
      (e = .returned (.bool true) ∧ J (i + 1) W') ∨ (∃ ch, e = .panicked ch ∧ Jp ch W')) →
    J 0 W →
    CallsIn F n P g (#[.func (.yield l) #[] #[]] ++ lb) W fun e W' => (∃ v, e = .returned v ∧ J xs.length W') ∨ (∃ ch, e = .panicked ch ∧ Jp ch W')
/-- How the body of a round may be left. -/
def bodyP (I : Nat → World → Prop) (Ip : List PanicEntry → World → Prop) (i : Nat) (W : World) : Exit → Act → World → Prop
  | .normal, _, W' => KeepsOthers W W' ∧ I (i + 1) W'
  | .panic ch, a, W' => KeepsOthers W W' ∧ a.defers = [] ∧ Ip ch W'
  | _, _, _ => False
/-- What a piece of a body does, in a frame of just this function. -/
def wpAt (P : Program) (f0 : FuncId) (c : Code) (Q : Exit → Act → World → Prop) (a : Act) (w : World) : Prop :=
  ∀ (b : Frame) (k : List Item) (cs : List Frame), b.roundOf = none → b.fn = f0 → ∃ e a' w', Q e a' w' ∧ ArrivesIn (Machine.fenced P Fence.wide) P (lone (b.atR a (.code c :: k)) cs w) b k cs e a' w'
theorem wpAt_of {f0 : FuncId} {c : Code} {Q : Exit → Act → World → Prop} {a : Act} {w : World} {m : Nat} (h : c.wpIn Fence.wide m P Q a w) : wpAt P f0 c Q a w :=
  fun b k cs hr _ => h b k cs hr trivial (room_wide _)
theorem wpAt_seq {f0 : FuncId} {x y : Code} {Q : Exit → Act → World → Prop} {a : Act} {w : World} (h : wpAt P f0 x (Exit.then (wpAt P f0 y Q) Q) a w) : wpAt P f0 (.seq x y) Q a w := by
  intro b k cs hro hb
  obtain ⟨e, a₁, w₁, hq, harr⟩ := h b (.code y :: k) cs hro hb
  have s0 : StepsIn (Machine.fenced P Fence.wide) P (lone (b.atR a (.code (.seq x y) :: k)) cs w) (lone (b.atR a (.code x :: .code y :: k)) cs w) := .one (fenced_wide _ _) stepR_seq
  cases e with
  | normal =>
    obtain ⟨e₂, a₂, w₂, hq₂, harr₂⟩ := hq b k cs hro hb
    exact ⟨e₂, a₂, w₂, hq₂, .of_steps (s0.trans harr) harr₂⟩
  | exit id => exact ⟨_, a₁, w₁, hq, .of_steps s0 (.pass (x := .code y) rfl (fun _ _ => .inl (by simp)) harr)⟩
  | goto l => exact ⟨_, a₁, w₁, hq, .of_steps s0 (.pass (x := .code y) rfl (fun _ _ => .inl (by simp)) harr)⟩
  | ret => exact ⟨_, a₁, w₁, hq, .of_steps s0 (.pass (x := .code y) rfl (fun _ _ => .inl (by simp)) harr)⟩
  | panic ch => exact ⟨_, a₁, w₁, hq, .of_steps s0 (.pass (x := .code y) rfl (fun _ _ => .inl (by simp)) harr)⟩
  | outgrown => exact ⟨_, a₁, w₁, hq, .of_steps s0 (.pass (x := .code y) rfl (fun _ _ => .inl (by simp)) harr)⟩
theorem wpAt_block {f0 : FuncId} {id : Nat} {c : Code} {Q : Exit → Act → World → Prop} {a : Act} {w : World} (h : wpAt P f0 c (Exit.inBlock id Q) a w) : wpAt P f0 (.block id c) Q a w := by
  intro b k cs hro hb
  have h0 : (lone (b.atR a (.code (.block id c) :: k)) cs w).fenced P Fence.wide := fenced_wide _ _
  obtain ⟨e, a₁, w₁, hq, harr⟩ := h b (.inBlock id :: k) cs hro hb
  cases e with
  | normal => exact ⟨.normal, a₁, w₁, hq, .head h0 stepR_block (StepsIn.trans harr (.one (fenced_wide _ _) stepR_inBlock))⟩
  | exit id' =>
    by_cases hid : id' = id
    · simp only [Exit.inBlock, hid, if_true] at hq
      exact ⟨.normal, a₁, w₁, hq, .head h0 stepR_block (harr.1 k (by simp [exitTo, hid]))⟩
    · simp only [Exit.inBlock, hid, if_false] at hq
      have this : (id == id') = false := by simp; exact fun h => hid h.symm
      have hx : exitTo id' (.inBlock id :: k) = exitTo id' k := by simp [exitTo, this]
      exact ⟨.exit id', a₁, w₁, hq, fun k' hk => .head h0 stepR_block (harr.1 k' (by rw [hx]; exact hk)),
        fun hr' hk => let ⟨k₁, h1, h2⟩ := harr.2 hr' (by rw [hx]; exact hk); ⟨k₁, h1, .head h0 stepR_block h2⟩⟩
  | goto l =>
    have hx : gotoIn l (.inBlock id :: k) = gotoIn l k := by simp [gotoIn]
    exact ⟨_, a₁, w₁, hq, fun k' hk => .head h0 stepR_block (harr.1 k' (by rw [hx]; exact hk)),
      fun hr' hk => let ⟨k₁, h1, h2⟩ := harr.2 hr' (by rw [hx]; exact hk); ⟨k₁, h1, .head h0 stepR_block h2⟩⟩
  | ret => exact ⟨_, a₁, w₁, hq, .of_steps (.one h0 stepR_block) harr⟩
  | panic ch => exact ⟨_, a₁, w₁, hq, .of_steps (.one h0 stepR_block) harr⟩
  | outgrown => exact ⟨_, a₁, w₁, hq, .of_steps (.one h0 stepR_block) harr⟩
theorem wpAt_mono {f0 : FuncId} {c : Code} {Q Q' : Exit → Act → World → Prop} {a : Act} {w : World} (h : wpAt P f0 c Q a w) (hq : ∀ e a' w', Q e a' w' → Q' e a' w') : wpAt P f0 c Q' a w :=
  fun b k cs hr hb => let ⟨e, a', w', q, r⟩ := h b k cs hr hb; ⟨e, a', w', hq _ _ _ q, r⟩
/-- A function's contract from its body. -/
theorem calls_of_wpAt {f : FuncId} {fn : Func} {c : Code} {args : Array Value} {w : World} {R : Ending → World → Prop} {m : Nat}
    (hf : P.funcs[f]? = some fn) (hb : fn.body = some c)
    (h : wpAt P f c (bodyPostM Fence.wide m P fn R) { tmps := args ++ Array.replicate (fn.ntmps - args.size) undef, defers := [] } w) : Calls P f args w R := by
  refine (callsIn_wide (n := m)).1 ⟨trivial, fun cs hr => ?_⟩
  let b : Frame := { (default : Frame) with fn := f, kind := .normal, roundOf := none }
  have henter : Frame.enter P f args .normal = b.atR { tmps := args ++ Array.replicate (fn.ntmps - args.size) undef, defers := [] } [.code c] := by
    simp [Frame.enter, Frame.atR, hf, hb, b]
  obtain ⟨e, a', w', hq, harr⟩ := h b [] cs rfl rfl
  rw [← henter] at harr
  cases e with
  | normal =>
    obtain ⟨e', w'', fr', hR, hs, hfn, hl⟩ := leaves_stepsInM a'.defers .returning w' { b.atR a' [] with mode := .returning } cs rfl rfl rfl hf rfl trivial hr hq
    exact ⟨e', w'', fr', hR, ComesIn.of_steps (StepsIn.trans harr (.one (fenced_wide _ _) (stepR_end rfl))) hs, hfn, hl⟩
  | ret =>
    obtain ⟨todo, hs₀⟩ := harr.1 rfl
    obtain ⟨e', w'', fr', hR, hs, hfn, hl⟩ := leaves_stepsInM a'.defers .returning w' { b.atR a' todo with mode := .returning } cs rfl rfl rfl hf rfl trivial hr hq
    exact ⟨e', w'', fr', hR, ComesIn.of_steps hs₀ hs, hfn, hl⟩
  | panic chain =>
    obtain ⟨todo, hs₀⟩ := harr
    obtain ⟨e', w'', fr', hR, hs, hfn, hl⟩ := leaves_stepsInM a'.defers (.panicking chain) w' { b.atR a' todo with mode := .panicking chain } cs rfl rfl rfl hf rfl trivial hr hq
    exact ⟨e', w'', fr', hR, ComesIn.of_steps hs₀ hs, hfn, hl⟩
  | exit id => exact hq.elim
  | goto l => exact hq.elim
  | outgrown => exact ⟨.outgrown, w', b, hq, harr.resolve_left (by simp [b]), rfl, trivial⟩
theorem wpAt_range {f0 : FuncId} {g : Operand} {ps : Array Tmp} {assign body : Code} {Q : Exit → Act → World → Prop} {a : Act} {w : World}
    {l : Nat} {mark : List Deferred} {w₁ w₁' w₂ : World} {d : Deferred} {f : FuncId} {args : Array Value}
    (he : (Instr.enterLoop f0 a.tmps ps assign body none).run P w = .ok (l, mark) w₁)
    (hres : (resolve a.eval (rangeCall g l) 0).run P w₁ = .ok d w₁') (hinv : (invoke d.target d.args).run P w₁' = .ok (.enter f args) w₂)
    (hcall : Calls P f args w₂ fun e w₃ => (∃ v w₄, e = .returned v ∧ (Instr.endLoop l).run P w₃ = .ok none w₄ ∧ Q .normal { a with defers := mark ++ a.defers } w₄) ∨ (∃ ch, e = .panicked ch ∧ Q (.panic ch) { a with defers := mark ++ a.defers } w₃)) :
    wpAt P f0 (.rangeFunc g ps assign body) Q a w := by
  intro b k cs hro hb
  subst hb
  rw [← hro] at he
  have henter := stepR_rangeFunc (P := P) (b := b) (a := a) (k := k) (cs := cs) (w := w) he hres hinv
  obtain ⟨e, w₃, fr, hR, hsteps, hfn, hleave⟩ := hcall (b.atR { a with defers := mark ++ a.defers } (.inRangeFunc l :: k) :: cs)
  rcases hR with ⟨v, w₄, rfl, hend, hq⟩ | ⟨ch, rfl, hq⟩
  · refine ⟨.normal, _, w₄, hq, ?_⟩
    have h1 : StepsIn (Machine.fenced P Fence.wide) P _ _ := stepsIn_wide.2 ((Steps.trans (.one henter) hsteps).trans (.one (step_leave_returned hleave)))
    rw [finish_atR_inRangeFunc l v] at h1
    exact h1.trans (.one (fenced_wide _ _) (stepR_endRangeFunc hend))
  · refine ⟨.panic ch, _, w₃, hq, .inRangeFunc l :: k, ?_⟩
    have h1 : StepsIn (Machine.fenced P Fence.wide) P _ _ := stepsIn_wide.2 ((Steps.trans (.one henter) hsteps).trans (.one (step_leave_panicked hleave)))
    rw [Frame.raise_atR] at h1
    exact h1
theorem wpAt_rangeFunc {α : Type} {g : Operand} {ps : Array Tmp} {assign body : Code} {Q : Exit → Act → World → Prop} {a : Act} {w : World} {fn : FuncId} (hfn : ∃ f, P.funcs[fn]? = some f) {gf : Nat} {lb : Array Value} (hg : a.eval g = .func (.func gf) #[] lb) (eg : ∀ args w, (callFunc gf args).run P w = .ok (.enter gf args) w)
    {encs : α → Array Value} {xs : List α} {w0 : World} {K : World → Prop} (hseq : Hands Fence.wide n P gf lb encs xs w0 K) (hb0 : Below w0.heap.size w0 w) (hps : ∀ x, (encs x).size = ps.size)
    (I : Nat → World → Prop) (Ip : List PanicEntry → World → Prop) (hIK : ∀ i W, I i W → K W) (hI : OwnFrom w.heap.size I) (hIp : OwnFrom w.heap.size Ip) (h0 : I 0 w) (a₁ : α → Act)
    (hassign : ∀ (l : Nat) (x : α) (W : World) (K : Act → World → Prop), K (a₁ x) W →
      assign.wpIn (Fence.wide.inRound l) (n - 1) P (Exit.then K (fun _ _ _ => False)) { tmps := (ps.zip (encs x)).foldl (fun t (p, v) => t.setIfInBounds p v) a.tmps, defers := [] } W)
    (hbody : ∀ (l i : Nat) (x : α) (W : World), xs[i]? = some x → I i W → body.wpIn (Fence.wide.inRound l) (n - 1) P (bodyP I Ip i W) (a₁ x) W)
    (hdone : ∀ (D : Nat) (W : World), w.heap.size ≤ D → I xs.length W → W.heap[D]? = some (.deferred (some [])) → Q .normal { a with defers := { target := .collected D, args := #[] } :: a.defers } W)
    (hpan : ∀ (D : Nat) (ch : List PanicEntry) (W : World), w.heap.size ≤ D → Ip ch W → W.heap[D]? = some (.deferred (some [])) → Q (.panic ch) { a with defers := { target := .collected D, args := #[] } :: a.defers } W) :
    wpAt P fn (.rangeFunc g ps assign body) Q a w := by
  obtain ⟨rc, hrec⟩ : ∃ rc : LoopState → Option Code → Loop, rc = fun st pe => { state := st, pending := pe, fn, tmps := a.tmps, params := ps, assign, body, defers := w.heap.size } := ⟨_, rfl⟩
  obtain ⟨W1, hW1⟩ : ∃ W1, (w.alloc (.deferred (some []))).alloc (.loop (rc .ready none)) = W1 := ⟨_, rfl⟩
  have hL1 : W1.heap[w.heap.size + 1]? = some (.loop (rc .ready none)) := by
    rw [← hW1]; have := World.alloc_heap_new (w.alloc (.deferred (some []))) (.loop (rc .ready none)); rwa [World.size_alloc] at this
  have hK1 : W1.heap[w.heap.size]? = some (.deferred (some [])) := by
    rw [← hW1]; exact (Below.heap_alloc _ _ _ (by simp)).trans (World.alloc_heap_new w _)
  have hI1 : I 0 W1 := by rw [← hW1]; exact hI.alloc _ (hI.alloc _ h0)
  have hb1 : Below w0.heap.size w0 W1 := by
    rw [← hW1]; exact hb0.trans ((((Below.refl _ w).alloc (Nat.le_refl _) _).alloc (by simp) _).mono hb0.size)
  refine wpAt_range (l := w.heap.size + 1) (mark := [{ target := .collected w.heap.size, args := #[] }]) (w₁ := W1) (d := { target := .fn (.func gf) lb, args := #[.func (.yield (w.heap.size + 1)) #[] #[]] }) (w₁' := W1) (f := gf)
    (args := #[.func (.yield (w.heap.size + 1)) #[] #[]] ++ lb) (w₂ := W1) ?_ ?_ ?_ ((callsIn_wide (n := n)).1 ?_)
  · rw [← hW1, hrec]; exact run_enterLoop_outer _ _ _ _ _
  · simp only [resolve, hg]
    simp [go_sem]
  · simp [invoke, go_sem, eg]
  · have hnw : ∀ {A B : World} {row : Option Nat}, (∀ r, row = some r → W1.heap.size ≤ r ∧ ∃ o : Obj, A.heap[r]? = some o ∧ o.isWalk = true) → (∀ r, row = some r → w.heap.size ≤ r ∧ ∃ o : Obj, A.heap[r]? = some o ∧ o.isCells = false) :=
      fun hr r e => by obtain ⟨hB, o, ho, hw⟩ := hr r e; exact ⟨by rw [← hW1] at hB; simp at hB; omega, o, ho, Obj.not_cells_of_walk hw⟩
    refine (hseq (w.heap.size + 1)
      (fun i W => I i W ∧ W.heap[w.heap.size + 1]? = some (.loop (rc .ready none)) ∧ W.heap[w.heap.size]? = some (.deferred (some [])))
      (fun ch W => Ip ch W ∧ W.heap[w.heap.size]? = some (.deferred (some [])))
      W1 hb1
      (fun s A B row hs hg' hr => ⟨hI s A B row hs.1 hg' (hnw (B := B) hr), (grownBy_keeps hg' (fun r e => (hr r e).2) hs.2.1 rfl).trans hs.2.1, (grownBy_keeps hg' (fun r e => (hr r e).2) hs.2.2 rfl).trans hs.2.2⟩)
      (fun i W h => hIK i W h.1)
      ?_ ⟨hI1, hL1, hK1⟩).mono ?_
    · rintro i x W hx ⟨hi, hl, hk⟩
      have hlt : w.heap.size + 1 < W.heap.size := (Array.getElem?_eq_some_iff.1 hl).1
      have hy := run_yield (P := P) (args := encs x) hl (by rw [hrec]; exact hps x)
      rw [hrec] at hy
      refine ⟨fn, _, assign, body, hy, round_panics trivial hfn (hassign _ x W _ ⟨_, run_beginRound hl (by rw [hrec]), ?_⟩)⟩
      have hl2 : (W.putObj (w.heap.size + 1) (.loop { rc .ready none with state := .busy })).heap[w.heap.size + 1]? = some (.loop { rc .ready none with state := .busy }) := World.putObj_heap_same hlt
      have hk2 : (W.putObj (w.heap.size + 1) (.loop { rc .ready none with state := .busy })).heap[w.heap.size]? = some (.deferred (some [])) := (World.putObj_heap_other (by omega)).trans hk
      refine wpIn_mono (hbody _ i x _ hx (hI.putObj _ hi (by omega) hl rfl)) ?_
      rintro e a3 W3 hp
      cases e with
      | normal =>
        obtain ⟨hk3, hi3⟩ := hp
        have hl3 := hk3.same _ _ hl2 rfl
        have he := run_endRound (P := P) none hl3
        refine ⟨_, _, he, .inl ⟨rfl, hI.putObj _ hi3 (by omega) hl3 rfl, ?_, (World.putObj_heap_other (by omega)).trans (hk3.same _ _ hk2 rfl)⟩⟩
        rw [World.putObj_heap_same (Array.getElem?_eq_some_iff.1 hl3).1]
        rw [hrec]; rfl
      | panic ch =>
        obtain ⟨hk3, hd, hi3⟩ := hp
        exact ⟨hd, .inr ⟨ch, rfl, hi3, hk3.same _ _ hk2 rfl⟩⟩
      | ret => exact hp.elim
      | exit id => exact hp.elim
      | goto t => exact hp.elim
      | outgrown => exact hp.elim
    · rintro e W2 (⟨v, rfl, hi, hl, hk⟩ | ⟨ch, rfl, hi, hk⟩)
      · exact .inl ⟨v, _, rfl, by have := run_endLoop (P := P) hl (by rw [hrec]; simp); rw [hrec] at this; exact this, hdone _ _ (Nat.le_refl _) (hI.putObj _ hi (by omega) hl rfl) ((World.putObj_heap_other (by omega)).trans hk)⟩
      · exact .inr ⟨ch, rfl, hpan _ _ _ (Nat.le_refl _) hi hk⟩
end Go.Proofs.YtphkdagapoonjaaGreatDoor.Lx
namespace Go.Proofs.YtphkdagapoonjaaGreatDoor.Lx
open Go.RowKit
open Go.Proofs.YtphkdagapoonjaaGreatDoor.F (bn bn_length bn_append bn_inj bn_get byte_bd hid bn_extract isEmpty_false isEmpty_true str_eq same_eq)
open Go.Proofs.YtphkdagapoonjaaGreatDoor.U (nx enc encs scal val Bytes)
set_option linter.unusedVariables false

theorem low_fin : ∀ c : Fin 256, (65 ≤ c.val ∧ c.val ≤ 70 → c.val ||| 32 = c.val + 32) ∧ (97 ≤ c.val ∧ c.val ≤ 102 → c.val ||| 32 = c.val) ∧ (97 ≤ c.val ||| 32 ∧ c.val ||| 32 ≤ 102 → (97 ≤ c.val ∧ c.val ≤ 102) ∨ (65 ≤ c.val ∧ c.val ≤ 70)) ∧ c.val ||| 32 ≤ 255 := by decide +kernel
theorem low_cases (c : Int) (h0 : 0 ≤ c) (h1 : c ≤ 255) : ∃ d : Int, bits .or .u8 c 32 = d ∧ 0 ≤ d ∧ d ≤ 255 ∧ (65 ≤ c ∧ c ≤ 70 → d = c + 32) ∧ (97 ≤ c ∧ c ≤ 102 → d = c) ∧ (97 ≤ d ∧ d ≤ 102 → (97 ≤ c ∧ c ≤ 102) ∨ (65 ≤ c ∧ c ≤ 70)) := by
  obtain ⟨n, rfl⟩ : ∃ n : Nat, c = (n : Int) := ⟨c.toNat, by omega⟩
  have h := low_fin ⟨n, by omega⟩
  simp only at h
  refine ⟨((n ||| 32 : Nat) : Int), u8_or_nat n 32 (by omega) (by omega), by omega, by omega, fun q => ?_, fun q => ?_, fun q => ?_⟩
  · have := h.1 (by omega); omega
  · have := h.2.1 (by omega); omega
  · have := h.2.2.1 (by omega); omega
theorem low_any (c d : Int) (h : bits .or .u8 c 32 = d) (w : World) : Calls Tryz.prog 102 #[.int .u8 c] w fun e w' => e = .returned (.int .u8 d) ∧ w' = w := by
  subst h
  go_enter Tryz.func102, Tryz.ntmps102
  go_wp2
  go_ret
  exact ⟨rfl, rfl⟩
abbrev top31 : Int := 2147483647
def AllD (l : List Int) : Prop := ∀ c ∈ l, isd c = true
/-- What is read of digits by sixteen: a number, or an error. -/
def IpR (l : List Int) (e : Ending) : Prop :=
  (AllD l ∧ hv l ≤ top31 ∧ 0 ≤ hv l ∧ e = .returned (.tuple #[.int .u64 (hv l), .nilIface])) ∨
  (¬ AllD l ∧ e = .returned (.tuple #[.int .u64 0, .iface 131 (.int .i64 2)])) ∨
  ((¬ AllD l ∨ top31 < hv l) ∧ e = .returned (.tuple #[.int .u64 2147483647, .iface 131 (.int .i64 1)]))
theorem take_one' (l : List Int) (k : Nat) (h : k < l.length) : l.take (k + 1) = l.take k ++ [l[k]?.getD 0] := by
  rw [List.take_add_one, List.getElem?_eq_getElem h]; rfl
theorem hv_one (l : List Int) (c : Int) : hv (l ++ [c]) = 16 * hv l + dg c := by unfold hv; rw [List.foldl_append]; rfl
/-- Digits so far. -/
def Dg (l : List Int) (k : Nat) (a : Int) : Prop := AllD (l.take k) ∧ hv (l.take k) = a
theorem Dg.step {l : List Int} {k : Nat} {a c : Int} (h : Dg l k a) (hk : k < l.length) (hc : l[k]?.getD 0 = c) (hx : 0 ≤ dg c) : Dg l (k + 1) (a * 16 + dg c) := by
  unfold Dg at *
  rw [take_one' l k hk, hc, hv_one, h.2]
  refine ⟨fun x hm => ?_, by omega⟩
  rw [List.mem_append, List.mem_singleton] at hm
  rcases hm with hm | rfl
  · exact h.1 x hm
  · unfold isd; exact decide_eq_true hx
theorem Dg.bad {l : List Int} {k : Nat} {c : Int} (hk : k < l.length) (hc : l[k]?.getD 0 = c) (hx : ¬ 0 ≤ dg c) : ¬ AllD l := by
  intro ha
  rw [List.getElem?_eq_getElem hk] at hc
  have := ha c (hc ▸ List.getElem_mem hk)
  unfold isd at this
  exact hx (of_decide_eq_true this)
theorem fold_up : ∀ (l : List Int) (a : Int), AllD l → 0 ≤ a → a ≤ l.foldl (fun n c => 16 * n + dg c) a
  | [], a, _, h => Int.le_refl _
  | c :: l, a, hd, h => by
    have hc : 0 ≤ dg c := of_decide_eq_true (hd c (by simp))
    have := fold_up l (16 * a + dg c) (fun x hx => hd x (by simp [hx])) (by omega)
    rw [List.foldl_cons]
    omega
theorem hv_up {l : List Int} {k : Nat} (h : AllD l) (h0 : 0 ≤ hv (l.take k)) : hv (l.take k) ≤ hv l := by
  have e : hv l = (l.drop k).foldl (fun n c => 16 * n + dg c) (hv (l.take k)) := by
    unfold hv
    rw [← List.foldl_append, List.take_append_drop]
  rw [e]
  exact fold_up _ _ (fun x hx => h x (List.mem_of_mem_drop hx)) h0
theorem Dg.over {l : List Int} {k : Nat} {a : Int} (h : Dg l k a) (h0 : top31 < a) : ¬ AllD l ∨ top31 < hv l := by
  by_cases hd : AllD l
  · have := hv_up (k := k) hd (by rw [h.2]; unfold top31 at h0; omega)
    rw [h.2] at this
    exact .inr (by unfold top31 at *; omega)
  · exact .inl hd
theorem Dg.all {l : List Int} {a : Int} (h : Dg l l.length a) : AllD l ∧ hv l = a := by
  unfold Dg at h
  rwa [List.take_length] at h
theorem dg_digit {c : Int} (h : 48 ≤ c ∧ c ≤ 57) : dg c = c - 48 := by unfold dg; rw [if_pos h]
theorem dg_small {c : Int} (h : 97 ≤ c ∧ c ≤ 102) : dg c = c - 87 := by unfold dg; rw [if_neg (by omega), if_pos h]
theorem dg_capital {c : Int} (h : 65 ≤ c ∧ c ≤ 70) : dg c = c - 55 := by unfold dg; rw [if_neg (by omega), if_neg (by omega), if_pos h]
theorem dg_none {c : Int} (h1 : ¬ (48 ≤ c ∧ c ≤ 57)) (h2 : ¬ (97 ≤ c ∧ c ≤ 102)) (h3 : ¬ (65 ≤ c ∧ c ≤ 70)) : ¬ 0 ≤ dg c := by unfold dg; rw [if_neg h1, if_neg h2, if_neg h3]; decide
set_option maxHeartbeats 16000000 in
set_option maxRecDepth 100000 in
theorem par_some (t : ByteArray) (hne : t.size ≠ 0) (hs : t.size ≤ 1000000) (w : World) :
    Calls Tryz.prog 99 #[.string t, .int .i64 16, .int .i64 31] w fun e w' => IpR (bn t) e ∧ Below w.heap.size w w' := by
  have hemp := isEmpty_false t (by omega)
  have hcv := Lib.run_convert_string_bytes (P := Tryz.prog) w 9 49 5 t (u := .string) Tryz.underlying9 Tryz.underlying49 Tryz.underlying5
  have hB : ∀ j, j < t.size → (Lib.bytesWorld w 5 t).cell? ⟨w.heap.size, j, none⟩ = some (.int .u8 ((bn t)[j]?.getD 0)) := fun j hj => by
    rw [Lib.bytesWorld_cell w 5 t j hj, bn_get t j hj]
    congr 2
    have h5 : j < t.data.size := hj
    simp only [List.getD, Array.getElem?_toList, Array.getElem?_eq_getElem h5, Option.getD_some]
    rfl
  have hBel : Below w.heap.size w (Lib.bytesWorld w 5 t) := ⟨rfl, rfl, rfl, by rw [Lib.bytesWorld_size]; omega, fun k hk => Lib.bytesWorld_at_old w 5 t k hk⟩
  obtain ⟨W1, hW1⟩ : ∃ W1, W1 = Lib.bytesWorld w 5 t := ⟨_, rfl⟩
  rw [← hW1] at hcv hB hBel
  clear hW1
  have hmv : IntKind.u64.wrap (IntKind.u64.wrap 2147483648 - 1) = 2147483647 := by
    rw [IntKind.wrap_u64, IntKind.wrap_u64]
    decide
  have hbl := bn_length t
  have HBL := hid hBel
  have HLN := hid hbl
  clear hBel hbl
  go_enter Tryz.func99, Tryz.ntmps99
  go_wp2
  go_loop [12, 13, 101] (fun vu vn vi => ∃ (k : Nat) (a : Int), vu = .bool false ∧ vn = .int .u64 a ∧ vi = .int .i64 k ∧ k ≤ t.size ∧ 0 ≤ a ∧ a ≤ 2147483647 ∧ Hid (Dg (bn t) k a))
    (fun _ _ vi => t.size - (intOf vi).toNat)
  case atStart => exact ⟨0, 0, rfl, rfl, rfl, by omega, by omega, by omega, fun c hc => (by simp at hc), rfl⟩
  case round =>
    obtain ⟨k, a, rfl, rfl, rfl, hk, a0, a1, hdg⟩ := hrel
    by_cases hkn : k < t.size
    · have hc := hB k hkn
      have hcb := byte_bd hkn
      have hkl : k < (bn t).length := by rw [HLN.out]; exact hkn
      obtain ⟨c, hcc⟩ : ∃ c, (bn t)[k]?.getD 0 = c := ⟨_, rfl⟩
      rw [hcc] at hc hcb
      obtain ⟨c0, c1⟩ := hcb
      by_cases hd : 48 ≤ c ∧ c ≤ 57
      · have hxc := dg_digit hd
        have hN := hdg.out.step hkl hcc (by omega)
        rw [hxc] at hN
        have HN := hid hN
        have HO := hid (fun h => hN.over h)
        obtain ⟨d0, d1⟩ := hd
        clear hN hxc hdg hcc hkl hB
        by_cases iov : a * 16 + (c - 48) ≤ 2147483647
        · go_wp2
          refine ⟨⟨k + 1, a * 16 + (c - 48), rfl, (by first | rfl | (congr 1; omega)), (by first | rfl | (congr 1; omega)), by omega, by omega, by omega, HN⟩, by simp [intOf]; omega⟩
        · have HO2 := hid (HO.out (by unfold top31; omega))
          go_wp2
          go_ret2
          exact ⟨.inr (.inr ⟨HO2.out, rfl⟩), HBL.out⟩
      · obtain ⟨d, hor, e0, e1, l1, l2, l3⟩ := low_cases c c0 c1
        by_cases hl : 97 ≤ d ∧ d ≤ 102
        · have hxc : dg c = d - 97 + 10 := by
            rcases l3 hl with q | q
            · rw [dg_small q, l2 q]; omega
            · rw [dg_capital q, l1 q]; omega
          have hN := hdg.out.step hkl hcc (by omega)
          rw [hxc] at hN
          have HN := hid hN
          have HO := hid (fun h => hN.over h)
          obtain ⟨d0, d1⟩ := hl
          have hnu : c ≠ 95 := by
            intro e
            rcases l3 ⟨d0, d1⟩ with q | q <;> omega
          have hnd : c < 48 ∨ 57 < c := by omega
          have HOR := hid hor
          clear hN hxc hdg hcc hkl hB l1 l2 l3 hor hd
          by_cases iov : a * 16 + (d - 97 + 10) ≤ 2147483647
          · rcases hnd with hnd | hnd
            all_goals
              go_wp2_with (go_at_call 102; refine (low_any c d HOR.out _).mono ?_; rintro e w' ⟨rfl, rfl⟩)
              refine ⟨⟨k + 1, a * 16 + (d - 97 + 10), rfl, (by first | rfl | (congr 1; omega)), (by first | rfl | (congr 1; omega)), by omega, by omega, by omega, HN⟩, by simp [intOf]; omega⟩
          · have HO2 := hid (HO.out (by unfold top31; omega))
            rcases hnd with hnd | hnd
            all_goals
              go_wp2_with (go_at_call 102; refine (low_any c d HOR.out _).mono ?_; rintro e w' ⟨rfl, rfl⟩)
              go_ret2
              exact ⟨.inr (.inr ⟨HO2.out, rfl⟩), HBL.out⟩
        · have hbad := Dg.bad hkl hcc (dg_none hd (fun q => hl (by rw [l2 q]; exact q)) (fun q => hl (by rw [l1 q]; omega)))
          have HBAD := hid hbad
          have HOR := hid hor
          have hnd : c < 48 ∨ 57 < c := by omega
          have hnl : d < 97 ∨ 102 < d := by omega
          clear hbad hdg hcc hkl hB l1 l2 l3 hor hd hl
          by_cases h95 : c = 95
          · subst h95
            rcases hnl with hnl | hnl
            all_goals
              go_wp2_with (go_at_call 102; refine (low_any 95 d HOR.out _).mono ?_; rintro e w' ⟨rfl, rfl⟩)
              all_goals go_ret2
              all_goals exact ⟨.inr (.inl ⟨HBAD.out, rfl⟩), HBL.out⟩
          · rcases hnd with hnd | hnd <;> rcases hnl with hnl | hnl
            all_goals
              go_wp2_with (go_at_call 102; refine (low_any c d HOR.out _).mono ?_; rintro e w' ⟨rfl, rfl⟩)
              all_goals go_ret2
              all_goals exact ⟨.inr (.inl ⟨HBAD.out, rfl⟩), HBL.out⟩
    · have hkk : k = t.size := by omega
      have hfin := Dg.all (l := bn t) (a := a) (by rw [HLN.out]; exact hkk ▸ hdg.out)
      have HFIN := hid hfin
      clear hfin hdg hB
      subst hkk
      go_wp2
      go_ret2
      exact ⟨.inl ⟨HFIN.out.1, by rw [HFIN.out.2]; unfold top31; omega, by rw [HFIN.out.2]; omega, by rw [HFIN.out.2] <;> rfl⟩, HBL.out⟩
set_option maxHeartbeats 4000000 in
set_option maxRecDepth 100000 in
theorem par_empty (w : World) : Calls Tryz.prog 99 #[.string ⟨#[]⟩, .int .i64 16, .int .i64 31] w fun e w' => e = .returned (.tuple #[.int .u64 0, .iface 131 (.int .i64 2)]) ∧ w' = w := by
  go_enter Tryz.func99, Tryz.ntmps99
  go_wp2
  go_ret2
  exact ⟨rfl, rfl⟩
end Go.Proofs.YtphkdagapoonjaaGreatDoor.Lx
namespace Go.Proofs.YtphkdagapoonjaaGreatDoor.Lx
open Go.RowKit
open Go.Proofs.YtphkdagapoonjaaGreatDoor.F (bn bn_length bn_append bn_inj bn_get byte_bd hid bn_extract isEmpty_false isEmpty_true str_eq same_eq)
open Go.Proofs.YtphkdagapoonjaaGreatDoor.U (nx enc encs scal val Bytes)
set_option linter.unusedVariables false

theorem toErr_any (t : ByteArray) (hs : t.size ≤ 1000000000) (k : Int) (hk : k = 1 ∨ k = 2) (w : World) (G : Gl w) : Calls Tryz.prog 100 #[.string ⟨#[80, 97, 114, 115, 101, 85, 105, 110, 116]⟩, .string t, .int .i64 16, .int .i64 31, .iface 131 (.int .i64 k)] w fun e w' => (∃ T p, e = .returned (.iface T p)) ∧ Below w.heap.size w w' := by
  obtain ⟨a, ha, ha2⟩ := G.esyn
  obtain ⟨b, hb, hb2⟩ := G.eran
  rcases hk with rfl | rfl
  · refine Calls.mono (show Calls Tryz.prog 100 #[.string ⟨#[80, 97, 114, 115, 101, 85, 105, 110, 116]⟩, .string t, .int .i64 16, .int .i64 31, .iface 131 (.int .i64 1)] w _ from Any.strconv_toError_range Tryz.lC245 _ t 16 31 b w (by omega) hb hb2) ?_
    rintro e w' ⟨N, rfl, _, _, h⟩
    exact ⟨⟨_, _, rfl⟩, h⟩
  · refine Calls.mono (show Calls Tryz.prog 100 #[.string ⟨#[80, 97, 114, 115, 101, 85, 105, 110, 116]⟩, .string t, .int .i64 16, .int .i64 31, .iface 131 (.int .i64 2)] w _ from Any.strconv_toError_syntax Tryz.lC245 _ t 16 31 a w (by omega) ha ha2) ?_
    rintro e w' ⟨N, rfl, _, _, h⟩
    exact ⟨⟨_, _, rfl⟩, h⟩
def PuR (l : List Int) (e : Ending) : Prop :=
  (l ≠ [] ∧ AllD l ∧ hv l ≤ top31 ∧ 0 ≤ hv l ∧ e = .returned (.tuple #[.int .u64 (hv l), .nilIface])) ∨
  ((l = [] ∨ ¬ AllD l ∨ top31 < hv l) ∧ ∃ x T p, 0 ≤ x ∧ x ≤ 2147483647 ∧ e = .returned (.tuple #[.int .u64 x, .iface T p]))
set_option maxRecDepth 100000 in
set_option maxHeartbeats 4000000 in
theorem pu_any (t : ByteArray) (hs : t.size ≤ 1000000) (w : World) (G : Gl w) : Calls Tryz.prog 91 #[.string t, .int .i64 16, .int .i64 31] w fun e W' => PuR (bn t) e ∧ Below w.heap.size w W' := by
  have HI : Hid (Calls Tryz.prog 99 #[.string t, .int .i64 16, .int .i64 31] w fun e w' => ((bn t ≠ [] ∧ AllD (bn t) ∧ hv (bn t) ≤ top31 ∧ 0 ≤ hv (bn t) ∧ e = .returned (.tuple #[.int .u64 (hv (bn t)), .nilIface])) ∨ ((bn t = [] ∨ ¬ AllD (bn t) ∨ top31 < hv (bn t)) ∧ ∃ x k, 0 ≤ x ∧ x ≤ 2147483647 ∧ (k = 1 ∨ k = 2) ∧ e = .returned (.tuple #[.int .u64 x, .iface 131 (.int .i64 k)]))) ∧ Below w.heap.size w w') := by
    by_cases h0 : t.size = 0
    · have : t = ⟨#[]⟩ := bn_inj (by rw [List.eq_nil_of_length_eq_zero (by rw [bn_length]; exact h0 : (bn t).length = 0)]; rfl)
      subst this
      exact (par_empty w).mono (by rintro e w' ⟨rfl, rfl⟩; exact ⟨.inr ⟨.inl rfl, 0, 2, by omega, by omega, .inr rfl, rfl⟩, Below.refl _ _⟩)
    · have hne : bn t ≠ [] := fun e => h0 (by rw [← bn_length, e]; rfl)
      refine (par_some t h0 hs w).mono ?_
      rintro e w' ⟨⟨h1, h2, h3, rfl⟩ | ⟨h1, rfl⟩ | ⟨h1, rfl⟩, B⟩
      · exact ⟨.inl ⟨hne, h1, h2, h3, rfl⟩, B⟩
      · exact ⟨.inr ⟨.inr (.inl h1), 0, 2, by omega, by omega, .inr rfl, rfl⟩, B⟩
      · exact ⟨.inr ⟨.inr h1, _, 1, by omega, by omega, .inl rfl, rfl⟩, B⟩
  have HG := hid (fun W (h : Below w.heap.size w W) => G.below h)
  clear G
  go_enter Tryz.func91, Tryz.ntmps91
  go_wp2_with fail
  refine HI.out.mono ?_
  rintro e w1 ⟨⟨h1, h2, h3, h4, rfl⟩ | ⟨h1, x, k, h2, h3, h4, rfl⟩, B⟩
  · have HQ := hid (And.intro h1 (And.intro h2 (And.intro h3 h4)))
    clear h1 h2 h3 h4
    go_wp2
    go_ret2
    exact ⟨.inl ⟨HQ.out.1, HQ.out.2.1, HQ.out.2.2.1, HQ.out.2.2.2, rfl⟩, B⟩
  · have HTE := hid (toErr_any t (by omega) k h4 w1 (HG.out w1 B))
    have HQ := hid h1
    clear h1 h4
    go_wp2_with fail
    refine HTE.out.mono ?_
    rintro e w2 ⟨⟨T, p, rfl⟩, hb2⟩
    have hb3 : Below w.heap.size w w2 := B.trans (hb2.mono B.size)
    go_wp2
    go_ret2
    exact ⟨.inr ⟨HQ.out, x, T, p, h2, h3, rfl⟩, hb3⟩
theorem hv_six {l : List Int} (h : AllD l) (hl : l.length ≤ 6) : hv l ≤ top31 := by
  have key : ∀ (l : List Int) (a : Int), AllD l → 0 ≤ a → l.foldl (fun n c => 16 * n + dg c) a < (a + 1) * 16 ^ l.length := by
    intro l
    induction l with
    | nil => intro a _ _; simp; omega
    | cons c l ih =>
      intro a hd h0
      have hc : 0 ≤ dg c := of_decide_eq_true (hd c (by simp))
      have hc2 : dg c ≤ 15 := by unfold dg; (repeat' split) <;> omega
      have := ih (16 * a + dg c) (fun x hx => hd x (by simp [hx])) (by omega)
      rw [List.foldl_cons, List.length_cons, Int.pow_succ]
      refine Int.lt_of_lt_of_le this ?_
      have e : (a + 1) * (16 ^ l.length * 16) = (16 * a + 16) * 16 ^ l.length := by
        rw [Int.mul_comm (16 ^ l.length) 16, ← Int.mul_assoc]; congr 1; omega
      rw [e]
      exact Int.mul_le_mul_of_nonneg_right (by omega) (Int.le_of_lt (Int.pow_pos (by decide)))
  have := key l 0 h (by omega)
  have h2 : (16 : Int) ^ l.length ≤ 16 ^ 6 := by
    have : (16 : Nat) ^ l.length ≤ 16 ^ 6 := Nat.pow_le_pow_right (by decide) hl
    exact_mod_cast this
  unfold hv top31
  have h3 : (16 : Int) ^ 6 = 16777216 := by decide
  omega
/-- What scalar answers. -/
def okD (l : List Int) : Prop := l ≠ [] ∧ AllD l ∧ l.length ≤ 6 ∧ scal (hv l) = true
def SclR (l : List Int) (e : Ending) : Prop := (okD l ∧ e = .returned (.tuple #[.int .i32 (hv l), .bool true])) ∨ (¬ okD l ∧ e = .returned (.tuple #[.int .i32 0, .bool false]))
theorem vrune_any (r : Int) (w : World) : Calls Tryz.prog 92 #[.int .i32 r] w fun e w' => e = .returned (.bool (scal r)) ∧ w' = w := by
  refine Calls.mono (show Calls Tryz.prog 92 #[.int .i32 r] w _ from Any.utf8_ValidRune Tryz.l119 r w) ?_
  rintro e w' ⟨rfl, rfl⟩
  refine ⟨?_, rfl⟩
  congr 2
  unfold Lib.validRune scal
  rw [Bool.eq_iff_iff]
  simp only [decide_eq_true_eq]
  omega
set_option maxRecDepth 100000 in
set_option maxHeartbeats 4000000 in
theorem scalar_any (t : ByteArray) (hs : t.size ≤ 1000000) (w : World) (G : Gl w) : Calls Tryz.prog 71 #[.string t] w fun e W' => SclR (bn t) e ∧ Below w.heap.size w W' := by
  have HP := hid (pu_any t hs w G)
  have HL := hid (bn_length t)
  clear G
  go_enter Tryz.func71, Tryz.ntmps71
  go_wp2_with fail
  refine HP.out.mono ?_
  rintro e w1 ⟨⟨h1, h2, h3, h4, rfl⟩ | ⟨h1, x, T, p, x0, x1, rfl⟩, B⟩
  · obtain ⟨H, hH⟩ : ∃ H, hv (bn t) = H := ⟨_, rfl⟩
    have HH := hid hH
    rw [hH] at h3 h4 ⊢
    have hwr : IntKind.i32.wrap H = H := by unfold top31 at h3; rw [IntKind.wrap_i32]; omega
    have HQ := hid (And.intro h1 h2)
    have HV := hid (fun W => vrune_any H W)
    clear h1 h2 hH HP
    unfold top31 at h3
    by_cases h6 : t.size ≤ 6
    · cases hsc : scal H with
      | true =>
        rw [hsc] at HV
        have HO : Hid (okD (bn t)) := hid ⟨HQ.out.1, HQ.out.2, by rw [HL.out]; exact h6, by rw [HH.out]; exact hsc⟩
        clear hsc
        go_wp2_with (go_at_call 92; refine (HV.out _).mono ?_; rintro e w2 ⟨rfl, hw2⟩; obtain rfl := hw2.symm)
        go_ret2
        exact ⟨.inl ⟨HO.out, by rw [HH.out] <;> rfl⟩, B⟩
      | false =>
        rw [hsc] at HV
        have HO : Hid (¬ okD (bn t)) := hid (fun h => by have := h.2.2.2; rw [HH.out, hsc] at this; cases this)
        clear hsc
        go_wp2_with (go_at_call 92; refine (HV.out _).mono ?_; rintro e w2 ⟨rfl, hw2⟩; obtain rfl := hw2.symm)
        go_ret2
        exact ⟨.inr ⟨HO.out, rfl⟩, B⟩
    · have HO : Hid (¬ okD (bn t)) := hid (fun h => by have := h.2.2.1; rw [HL.out] at this; omega)
      go_wp2
      go_ret2
      exact ⟨.inr ⟨HO.out, rfl⟩, B⟩
  · have HO : Hid (¬ okD (bn t)) := hid (fun h => by
      rcases h1 with h1 | h1 | h1
      · exact h.1 h1
      · exact h1 h.2.1
      · have := hv_six h.2.1 h.2.2.1
        unfold top31 at *
        omega)
    clear h1 HP
    go_wp2
    go_ret2
    exact ⟨.inr ⟨HO.out, rfl⟩, B⟩
end Go.Proofs.YtphkdagapoonjaaGreatDoor.Lx
