/- An iterator that nobody stops: what it owes, and the law of a loop over it. -/
import Derived.Test.YtcgfbejcehiolaaSB
import Derived.RangeFuncNested
import Derived.RangeFuncBound
import Derived.RangeFuncCalls
import Derived.RangeFuncLeaves
import Derived.RangeFuncBox
import Derived.Shelf.Abstract
import Derived.OwnWalkIn
import Derived.TacticsInMore
import Derived.LoopNIn
import Derived.LoopIn
namespace Go.Proofs.Ytcgfbejcehiolaa
open Go.RowKit Go.Shelf
set_option linter.unusedVariables false

/-- Cells that no body of a loop over an iterator writes here: all but points, slices of points, whole numbers. -/
def stays : Obj → Bool
  | .cells _ t _ => decide (t ≠ 55 ∧ t ≠ 36 ∧ t ≠ 3)
  | _ => false
/-- What a round keeps: such cells, and what is no cells from B on. -/
structure Kp (B : Nat) (W W' : World) : Prop where
  size : W.heap.size ≤ W'.heap.size
  cel : ∀ (k : Nat) (o : Obj), W.heap[k]? = some o → stays o = true → W'.heap[k]? = some o
  oth : ∀ (k : Nat) (o : Obj), B ≤ k → W.heap[k]? = some o → o.isCells = false → W'.heap[k]? = some o
theorem Kp.refl (B : Nat) (W : World) : Kp B W W := ⟨Nat.le_refl _, fun _ _ h _ => h, fun _ _ _ h _ => h⟩
theorem Kp.trans {B : Nat} {X Y Z : World} (h : Kp B X Y) (k : Kp B Y Z) : Kp B X Z :=
  ⟨Nat.le_trans h.size k.size, fun i o hi ho => k.cel i o (h.cel i o hi ho) ho, fun i o hb hi ho => k.oth i o hb (h.oth i o hb hi ho) ho⟩
theorem Kp.mono {B C : Nat} {X Y : World} (h : Kp B X Y) (hb : B ≤ C) : Kp C X Y := ⟨h.size, h.cel, fun i o hi => h.oth i o (Nat.le_trans hb hi)⟩
theorem stays_cells {o : Obj} (h : stays o = true) : o.isCells = true := by
  cases o <;> first | rfl | (simp [stays] at h)
/-- New blocks, and one old one that holds points, a slice of points or a number. -/
theorem Kp.grown {B : Nat} {X Y : World} {row : Option Nat} (hg : X.grownBy Y row) (hr : ∀ k, row = some k → ∃ o : Obj, X.heap[k]? = some o ∧ o.isCells = true ∧ stays o = false) : Kp B X Y := by
  refine ⟨hg.size, fun k o hk ho => (hg.block k (Array.getElem?_eq_some_iff.1 hk).1 (fun e => ?_)).trans hk, fun k o _ hk ho => (hg.block k (Array.getElem?_eq_some_iff.1 hk).1 (fun e => ?_)).trans hk⟩
  · obtain ⟨o', h1, h2, h3⟩ := hr k e.symm
    rw [hk] at h1; cases h1; rw [ho] at h3; cases h3
  · obtain ⟨o', h1, h2, h3⟩ := hr k e.symm
    rw [hk] at h1; cases h1; rw [ho] at h2; cases h2
theorem Kp.below {B : Nat} {X Y : World} (h : Below X.heap.size X Y) : Kp B X Y :=
  ⟨h.size, fun k o hk _ => (h.block k (Array.getElem?_eq_some_iff.1 hk).1).trans hk, fun k o _ hk _ => (h.block k (Array.getElem?_eq_some_iff.1 hk).1).trans hk⟩
theorem Kp.boxed {B b : Nat} {X Y : World} {t : TypeId} {v : Value} (h : Kp B X Y) (hb : Boxed X b t v) (ht : t ≠ 55 ∧ t ≠ 36 ∧ t ≠ 3) : Boxed Y b t v :=
  h.cel b _ hb (by simpa [stays] using ht)

/-- The iterator g tells the numbers xs, one by one, to whomever does not stop it. -/
def Feeds (g : Nat) (lb : Array Value) (xs : List Int) (w : World) : Prop :=
  ∀ (l : Nat) (J : List Int → World → Prop) (W : World), Below w.heap.size w W → OwnFrom W.heap.size J →
    (∀ pre x W1, J pre W1 → pre ++ [x] <+: xs → ∀ m, YieldAt Fence.wide m Try.prog l #[.int .i32 x] W1 fun e W' => e = .returned (.bool true) ∧ J (pre ++ [x]) W' ∧ Kp W.heap.size W1 W') →
    J [] W → ∀ n, CallsIn Fence.wide n Try.prog g (#[.func (.yield l) #[] #[]] ++ lb) W fun e W' => (∃ v, e = .returned v) ∧ J xs W'

/-- How a round ends that goes on. -/
def goesOn (B : Nat) (I : List Int → World → Prop) (xs : List Int) (W : World) : Exit → Act → World → Prop
  | .normal, _, W' => Kp B W W' ∧ I xs W'
  | _, _, _ => False

theorem OwnFrom.mono {β : Type} {B C : Nat} {I : β → World → Prop} (h : OwnFrom B I) (hb : B ≤ C) : OwnFrom C I :=
  fun s X Y row hs hg hr => h s X Y row hs hg (fun r e => ⟨Nat.le_trans hb (hr r e).1, (hr r e).2⟩)
theorem ownFrom_block {β : Type} {B k : Nat} {o : Obj} (hk : k < B) : OwnFrom B (fun (_ : β) W => W.heap[k]? = some o) :=
  fun s X Y row hs hg hr => (hg.block k (Array.getElem?_eq_some_iff.1 hs).1 (fun e => by have := (hr k e.symm).1; omega)).trans hs

theorem range_feeds {g : Operand} {ps : Array Tmp} {assign body : Code} {Q : Exit → Act → World → Prop} {a : Act} {w : World} {n gf : Nat} {lb : Array Value} {xs : List Int}
    (hg : a.eval g = .func (.func gf) #[] lb) (eg : ∀ args w, (callFunc gf args).run Try.prog w = .ok (.enter gf args) w) (hseq : Feeds gf lb xs w) (hps : ps.size = 1)
    (I : List Int → World → Prop) (hI : OwnFrom w.heap.size I) (h0 : I [] w) (a₁ : Int → Act)
    (hassign : ∀ (l : Nat) (x : Int) (W : World) (m : Nat) (K : Act → World → Prop), K (a₁ x) W →
      assign.wpIn (Fence.wide.inRound l) m Try.prog (Exit.then K (fun _ _ _ => False)) { tmps := (ps.zip #[Value.int .i32 x]).foldl (fun t (p, v) => t.setIfInBounds p v) a.tmps, defers := [] } W)
    (hbody : ∀ (l : Nat) (pre : List Int) (x : Int) (W : World) (m : Nat), I pre W → pre ++ [x] <+: xs → body.wpIn (Fence.wide.inRound l) m Try.prog (goesOn w.heap.size I (pre ++ [x]) W) (a₁ x) W)
    (hdone : ∀ (D : Nat) (W : World), w.heap.size ≤ D → I xs W → W.heap[D]? = some (.deferred (some [])) → Q .normal { a with defers := { target := .collected D, args := #[] } :: a.defers } W) :
    (Code.rangeFunc g ps assign body).wpIn Fence.wide n Try.prog Q a w := by
  refine wpIn_rangeFunc fun fn hfn => ?_
  obtain ⟨B, hB⟩ : ∃ B, B = w.heap.size := ⟨_, rfl⟩
  obtain ⟨rdy, hrdy⟩ : ∃ r : Loop, r = { state := .ready, pending := none, fn := fn, tmps := a.tmps, params := ps, assign := assign, body := body, defers := B } := ⟨_, rfl⟩
  obtain ⟨V, hV⟩ : ∃ V, V = (w.alloc (.deferred (some []))).alloc (.loop rdy) := ⟨_, rfl⟩
  have hVs : V.heap.size = B + 2 := by rw [hV, hB]; simp
  have hVl : V.heap[B + 1]? = some (.loop rdy) := by rw [hV, hB]; have := World.alloc_heap_new (w.alloc (.deferred (some []))) (.loop rdy); rwa [World.size_alloc] at this
  have hVd : V.heap[B]? = some (.deferred (some [])) := by rw [hV, hB]; exact (Below.heap_alloc _ _ _ (by simp)).trans (World.alloc_heap_new w _)
  have hVb : Below w.heap.size w V := by rw [hV]; exact ((Below.refl _ w).alloc (Nat.le_refl _) _).alloc (by simp) _
  refine ⟨B + 1, [{ target := .collected B, args := #[] }], V, { target := .fn (.func gf) lb, args := #[.func (.yield (B + 1)) #[] #[]] }, V, gf, #[.func (.yield (B + 1)) #[] #[]] ++ lb, V, ?_, ?_, fun _ _ => trivial, ?_, (fun h => by cases h), ?_⟩
  · rw [hV, hrdy, hB]; exact run_enterLoop_outer _ _ _ _ _
  · simp only [resolve, hg]
    simp [go_sem]
  · simp [invoke, go_sem, eg]
  have hIb : OwnFrom B I := by rw [hB]; exact hI
  refine (hseq (B + 1) (fun pre W => I pre W ∧ W.heap[B + 1]? = some (.loop rdy) ∧ W.heap[B]? = some (.deferred (some []))) V hVb ?_ ?_ ⟨?_, hVl, hVd⟩ (n - 1)).mono ?_
  · refine OwnFrom.and (OwnFrom.mono hI (by omega)) (OwnFrom.and (ownFrom_block (by omega)) (ownFrom_block (by omega)))
  · rintro pre x W ⟨hi, hl, hd⟩ hp m
    have hlt : B + 1 < W.heap.size := (Array.getElem?_eq_some_iff.1 hl).1
    have hy := run_yield (P := Try.prog) (args := #[Value.int .i32 x]) hl (by rw [hrdy]; exact hps.symm)
    rw [hrdy] at hy
    refine ⟨fn, _, assign, body, hy, roundIn_of_wpIn hfn (hassign _ x W m _ ⟨_, run_beginRound hl (by rw [hrdy]), ?_⟩)⟩
    obtain ⟨V1, hV1⟩ : ∃ V1, V1 = W.putObj (B + 1) (.loop { rdy with state := .busy }) := ⟨_, rfl⟩
    rw [← hV1]
    have l1 : V1.heap[B + 1]? = some (.loop { rdy with state := .busy }) := by rw [hV1]; exact World.putObj_heap_same hlt
    have d1 : V1.heap[B]? = some (.deferred (some [])) := by rw [hV1]; exact (World.putObj_heap_other (by omega)).trans hd
    have i1 : I pre V1 := by rw [hV1]; exact hIb.putObj _ hi (by omega) hl rfl
    have k1 : Kp (B + 2) W V1 := by
      rw [hV1]
      refine ⟨by simp, fun k o hk ho => ?_, fun k o hb hk ho => (World.putObj_heap_other (by omega)).trans hk⟩
      by_cases e : k = B + 1
      · subst e; rw [hl] at hk; cases hk; cases ho
      · exact (World.putObj_heap_other e).trans hk
    refine wpIn_mono (hbody (B + 1) pre x V1 m i1 hp) ?_
    rintro ex a3 W3 hq
    cases ex with
    | normal =>
      obtain ⟨k3, i3⟩ := hq
      rw [← hB] at k3
      have l3 := k3.oth _ _ (by omega) l1 rfl
      have d3 := k3.oth _ _ (Nat.le_refl _) d1 rfl
      refine ⟨_, _, run_endRound (P := Try.prog) none l3, rfl, ⟨hIb.putObj _ i3 (by omega) l3 rfl, ?_, (World.putObj_heap_other (by omega)).trans d3⟩, ?_⟩
      · rw [World.putObj_heap_same (Array.getElem?_eq_some_iff.1 l3).1, hrdy]; rfl
      · rw [hVs]
        refine k1.trans ((k3.mono (by omega)).trans ?_)
        refine ⟨by simp, fun k o hk ho => ?_, fun k o hb hk ho => (World.putObj_heap_other (by omega)).trans hk⟩
        by_cases e : k = B + 1
        · subst e; rw [l3] at hk; cases hk; cases ho
        · exact (World.putObj_heap_other e).trans hk
    | ret => exact hq.elim
    | exit _ => exact hq.elim
    | goto _ => exact hq.elim
    | panic _ => exact hq.elim
    | outgrown => exact hq.elim
  · rw [hV]; exact OwnFrom.alloc hI _ (OwnFrom.alloc hI _ h0)
  · rintro e W2 ⟨⟨v, rfl⟩, hi, hl, hd⟩
    refine ⟨none, _, by have := run_endLoop (P := Try.prog) hl (by rw [hrdy]; simp); rw [hrdy] at this; exact this, ?_⟩
    rw [← hrdy]
    exact hdone B _ (by omega) (hIb.putObj _ hi (by omega) hl rfl) ((World.putObj_heap_other (by omega)).trans hd)
end Go.Proofs.Ytcgfbejcehiolaa
