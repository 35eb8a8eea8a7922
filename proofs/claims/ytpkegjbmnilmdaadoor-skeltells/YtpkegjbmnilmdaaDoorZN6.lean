/- Texts of one layer, one behind the other: NIA NIB NIC. -/
import Derived.Test.YtpkegjbmnilmdaaDoorZN1
import Derived.Test.YtpkegjbmnilmdaaDoorZN5
import Derived.RangeFuncNested
import Derived.RangeFuncBound
import Derived.RangeFuncCalls
import Derived.RangeFuncLeaves
import Derived.RangeFuncBox
import Derived.Shelf.Abstract
import Derived.OwnWalkIn
import Derived.TacticsInMore
import Derived.LoopNIn
import Derived.LoopIn
/- An iterator that nobody stops: what it owes, and the law of a loop over it. -/
namespace Go.Proofs.YtpkegjbmnilmdaaDoor.N
open Go.RowKit Go.Shelf
set_option linter.unusedVariables false

/-- Cells that no body of a loop over an iterator writes here: all but points, slices of points, whole numbers. -/
def stays : Obj → Bool
  | .cells _ t _ => decide (t ≠ 87 ∧ t ≠ 71 ∧ t ≠ 3)
  | _ => false
/-- What a round keeps: such cells, and what is no cells from B on. -/
structure Kp (B : Nat) (W W' : World) : Prop where
  size : W.heap.size ≤ W'.heap.size
  cel : ∀ (k : Nat) (o : Obj), W.heap[k]? = some o → stays o = true → W'.heap[k]? = some o
  oth : ∀ (k : Nat) (o : Obj), B ≤ k → W.heap[k]? = some o → o.isCells = false → W'.heap[k]? = some o
theorem Kp.refl (B : Nat) (W : World) : Kp B W W := ⟨Nat.le_refl _, fun _ _ h _ => h, fun _ _ _ h _ => h⟩
theorem Kp.trans {B : Nat} {X Y Z : World} (h : Kp B X Y) (k : Kp B Y Z) : Kp B X Z :=
  ⟨Nat.le_trans h.size k.size, fun i o hi ho => k.cel i o (h.cel i o hi ho) ho, fun i o hb hi ho => k.oth i o hb (h.oth i o hb hi ho) ho⟩
theorem Kp.mono {B C : Nat} {X Y : World} (h : Kp B X Y) (hb : B ≤ C) : Kp C X Y := ⟨h.size, h.cel, fun i o hi => h.oth i o (Nat.le_trans hb hi)⟩
theorem stays_cells {o : Obj} (h : stays o = true) : o.isCells = true := by
  cases o <;> first | rfl | (simp [stays] at h)
/-- New blocks, and one old one that holds points, a slice of points or a number. -/
theorem Kp.grown {B : Nat} {X Y : World} {row : Option Nat} (hg : X.grownBy Y row) (hr : ∀ k, row = some k → ∃ o : Obj, X.heap[k]? = some o ∧ o.isCells = true ∧ stays o = false) : Kp B X Y := by
  refine ⟨hg.size, fun k o hk ho => (hg.block k (Array.getElem?_eq_some_iff.1 hk).1 (fun e => ?_)).trans hk, fun k o _ hk ho => (hg.block k (Array.getElem?_eq_some_iff.1 hk).1 (fun e => ?_)).trans hk⟩
  · obtain ⟨o', h1, h2, h3⟩ := hr k e.symm
    rw [hk] at h1; cases h1; rw [ho] at h3; cases h3
  · obtain ⟨o', h1, h2, h3⟩ := hr k e.symm
    rw [hk] at h1; cases h1; rw [ho] at h2; cases h2
theorem Kp.below {B : Nat} {X Y : World} (h : Below X.heap.size X Y) : Kp B X Y :=
  ⟨h.size, fun k o hk _ => (h.block k (Array.getElem?_eq_some_iff.1 hk).1).trans hk, fun k o _ hk _ => (h.block k (Array.getElem?_eq_some_iff.1 hk).1).trans hk⟩
theorem Kp.boxed {B b : Nat} {X Y : World} {t : TypeId} {v : Value} (h : Kp B X Y) (hb : Boxed X b t v) (ht : t ≠ 87 ∧ t ≠ 71 ∧ t ≠ 3) : Boxed Y b t v :=
  h.cel b _ hb (by simpa [stays] using ht)

/-- The iterator g tells the numbers xs, one by one, to whomever does not stop it. -/
def Feeds (g : Nat) (lb : Array Value) (xs : List Int) (w : World) : Prop :=
  ∀ (l : Nat) (J : List Int → World → Prop) (W : World), Below w.heap.size w W → OwnFrom W.heap.size J →
    (∀ pre x W1, J pre W1 → pre ++ [x] <+: xs → ∀ m, YieldAt Fence.wide m Tryd.prog l #[.int .i32 x] W1 fun e W' => e = .returned (.bool true) ∧ J (pre ++ [x]) W' ∧ Kp W.heap.size W1 W') →
    J [] W → ∀ n, CallsIn Fence.wide n Tryd.prog g (#[.func (.yield l) #[] #[]] ++ lb) W fun e W' => (∃ v, e = .returned v) ∧ J xs W'

/-- How a round ends that goes on. -/
def goesOn (B : Nat) (I : List Int → World → Prop) (xs : List Int) (W : World) : Exit → Act → World → Prop
  | .normal, _, W' => Kp B W W' ∧ I xs W'
  | _, _, _ => False

theorem OwnFrom.mono {β : Type} {B C : Nat} {I : β → World → Prop} (h : OwnFrom B I) (hb : B ≤ C) : OwnFrom C I :=
  fun s X Y row hs hg hr => h s X Y row hs hg (fun r e => ⟨Nat.le_trans hb (hr r e).1, (hr r e).2⟩)
theorem ownFrom_block {β : Type} {B k : Nat} {o : Obj} (hk : k < B) : OwnFrom B (fun (_ : β) W => W.heap[k]? = some o) :=
  fun s X Y row hs hg hr => (hg.block k (Array.getElem?_eq_some_iff.1 hs).1 (fun e => by have := (hr k e.symm).1; omega)).trans hs

theorem range_feeds {g : Operand} {ps : Array Tmp} {assign body : Code} {Q : Exit → Act → World → Prop} {a : Act} {w : World} {n gf : Nat} {lb : Array Value} {xs : List Int}
    (hg : a.eval g = .func (.func gf) #[] lb) (eg : ∀ args w, (callFunc gf args).run Tryd.prog w = .ok (.enter gf args) w) (hseq : Feeds gf lb xs w) (hps : ps.size = 1)
    (I : List Int → World → Prop) (hI : OwnFrom w.heap.size I) (h0 : I [] w) (a₁ : Int → Act)
    (hassign : ∀ (l : Nat) (x : Int) (W : World) (m : Nat) (K : Act → World → Prop), K (a₁ x) W →
      assign.wpIn (Fence.wide.inRound l) m Tryd.prog (Exit.then K (fun _ _ _ => False)) { tmps := (ps.zip #[Value.int .i32 x]).foldl (fun t (p, v) => t.setIfInBounds p v) a.tmps, defers := [] } W)
    (hbody : ∀ (l : Nat) (pre : List Int) (x : Int) (W : World) (m : Nat), I pre W → pre ++ [x] <+: xs → body.wpIn (Fence.wide.inRound l) m Tryd.prog (goesOn w.heap.size I (pre ++ [x]) W) (a₁ x) W)
    (hdone : ∀ (D : Nat) (W : World), w.heap.size ≤ D → I xs W → W.heap[D]? = some (.deferred (some [])) → Q .normal { a with defers := { target := .collected D, args := #[] } :: a.defers } W) :
    (Code.rangeFunc g ps assign body).wpIn Fence.wide n Tryd.prog Q a w := by
  refine wpIn_rangeFunc fun fn hfn => ?_
  obtain ⟨B, hB⟩ : ∃ B, B = w.heap.size := ⟨_, rfl⟩
  obtain ⟨rdy, hrdy⟩ : ∃ r : Loop, r = { state := .ready, pending := none, fn := fn, tmps := a.tmps, params := ps, assign := assign, body := body, defers := B } := ⟨_, rfl⟩
  obtain ⟨V, hV⟩ : ∃ V, V = (w.alloc (.deferred (some []))).alloc (.loop rdy) := ⟨_, rfl⟩
  have hVs : V.heap.size = B + 2 := by rw [hV, hB]; simp
  have hVl : V.heap[B + 1]? = some (.loop rdy) := by rw [hV, hB]; have := World.alloc_heap_new (w.alloc (.deferred (some []))) (.loop rdy); rwa [World.size_alloc] at this
  have hVd : V.heap[B]? = some (.deferred (some [])) := by rw [hV, hB]; exact (Below.heap_alloc _ _ _ (by simp)).trans (World.alloc_heap_new w _)
  have hVb : Below w.heap.size w V := by rw [hV]; exact ((Below.refl _ w).alloc (Nat.le_refl _) _).alloc (by simp) _
  refine ⟨B + 1, [{ target := .collected B, args := #[] }], V, { target := .fn (.func gf) lb, args := #[.func (.yield (B + 1)) #[] #[]] }, V, gf, #[.func (.yield (B + 1)) #[] #[]] ++ lb, V, ?_, ?_, fun _ _ => trivial, ?_, (fun h => by cases h), ?_⟩
  · rw [hV, hrdy, hB]; exact run_enterLoop_outer _ _ _ _ _
  · simp only [resolve, hg]
    simp [go_sem]
  · simp [invoke, go_sem, eg]
  have hIb : OwnFrom B I := by rw [hB]; exact hI
  refine (hseq (B + 1) (fun pre W => I pre W ∧ W.heap[B + 1]? = some (.loop rdy) ∧ W.heap[B]? = some (.deferred (some []))) V hVb ?_ ?_ ⟨?_, hVl, hVd⟩ (n - 1)).mono ?_
  · refine OwnFrom.and (OwnFrom.mono hI (by omega)) (OwnFrom.and (ownFrom_block (by omega)) (ownFrom_block (by omega)))
  · rintro pre x W ⟨hi, hl, hd⟩ hp m
    have hlt : B + 1 < W.heap.size := (Array.getElem?_eq_some_iff.1 hl).1
    have hy := run_yield (P := Tryd.prog) (args := #[Value.int .i32 x]) hl (by rw [hrdy]; exact hps.symm)
    rw [hrdy] at hy
    refine ⟨fn, _, assign, body, hy, roundIn_of_wpIn hfn (hassign _ x W m _ ⟨_, run_beginRound hl (by rw [hrdy]), ?_⟩)⟩
    obtain ⟨V1, hV1⟩ : ∃ V1, V1 = W.putObj (B + 1) (.loop { rdy with state := .busy }) := ⟨_, rfl⟩
    rw [← hV1]
    have l1 : V1.heap[B + 1]? = some (.loop { rdy with state := .busy }) := by rw [hV1]; exact World.putObj_heap_same hlt
    have d1 : V1.heap[B]? = some (.deferred (some [])) := by rw [hV1]; exact (World.putObj_heap_other (by omega)).trans hd
    have i1 : I pre V1 := by rw [hV1]; exact hIb.putObj _ hi (by omega) hl rfl
    have k1 : Kp (B + 2) W V1 := by
      rw [hV1]
      refine ⟨by simp, fun k o hk ho => ?_, fun k o hb hk ho => (World.putObj_heap_other (by omega)).trans hk⟩
      by_cases e : k = B + 1
      · subst e; rw [hl] at hk; cases hk; cases ho
      · exact (World.putObj_heap_other e).trans hk
    refine wpIn_mono (hbody (B + 1) pre x V1 m i1 hp) ?_
    rintro ex a3 W3 hq
    cases ex with
    | normal =>
      obtain ⟨k3, i3⟩ := hq
      rw [← hB] at k3
      have l3 := k3.oth _ _ (by omega) l1 rfl
      have d3 := k3.oth _ _ (Nat.le_refl _) d1 rfl
      refine ⟨_, _, run_endRound (P := Tryd.prog) none l3, rfl, ⟨hIb.putObj _ i3 (by omega) l3 rfl, ?_, (World.putObj_heap_other (by omega)).trans d3⟩, ?_⟩
      · rw [World.putObj_heap_same (Array.getElem?_eq_some_iff.1 l3).1, hrdy]; rfl
      · rw [hVs]
        refine k1.trans ((k3.mono (by omega)).trans ?_)
        refine ⟨by simp, fun k o hk ho => ?_, fun k o hb hk ho => (World.putObj_heap_other (by omega)).trans hk⟩
        by_cases e : k = B + 1
        · subst e; rw [l3] at hk; cases hk; cases ho
        · exact (World.putObj_heap_other e).trans hk
    | ret => exact hq.elim
    | exit _ => exact hq.elim
    | goto _ => exact hq.elim
    | panic _ => exact hq.elim
    | outgrown => exact hq.elim
  · rw [hV]; exact OwnFrom.alloc hI _ (OwnFrom.alloc hI _ h0)
  · rintro e W2 ⟨⟨v, rfl⟩, hi, hl, hd⟩
    refine ⟨none, _, by have := run_endLoop (P := Tryd.prog) hl (by rw [hrdy]; simp); rw [hrdy] at this; exact this, ?_⟩
    rw [← hrdy]
    exact hdone B _ (by omega) (hIb.putObj _ hi (by omega) hl rfl) ((World.putObj_heap_other (by omega)).trans hd)
end Go.Proofs.YtpkegjbmnilmdaaDoor.N
/- The iterators of the program: a list's numbers, what one is made of, what all of a list are made of. -/
namespace Go.Proofs.YtpkegjbmnilmdaaDoor.N
open Go.RowKit Go.Shelf
set_option linter.unusedVariables false
attribute [local go_sem] Oper.semAt_some

/-- The slice value v leads to the numbers zs, from the beginning of a block of numbers on. -/
def Row21 (W : World) (v : Value) (zs : List Int) : Prop :=
  ∃ a cap, v = .slice a zs.length cap ∧ (0 < zs.length → ∃ b off cur, a = some ⟨b, off, none⟩ ∧ W.heap[b]? = some (.cells cur 21 (0, 0)) ∧ ∀ j, j < zs.length → cur[off + j]? = some (.int .i32 (zs[j]?.getD 0)))
theorem Row21.of_ints {W : World} {v : Value} {zs : List Int} (h : D.IntsAt W v zs) : Row21 W v zs := by
  obtain ⟨a, cap, e, _, f⟩ := h
  refine ⟨a, cap, e, fun hp => ?_⟩
  obtain ⟨b, e2, g⟩ := f hp
  refine ⟨b, 0, _, e2, g, fun j hj => ?_⟩
  simp [List.getElem?_eq_getElem hj]
theorem Row21.of_own {W : World} {base n : Nat} {v : Value} {zs : List Int} (hn : n = zs.length) (h : W.ownsRow base 21 1 v n (zs.map (Value.int .i32))) : Row21 W v zs := by
  subst hn
  rcases h.2 with ⟨rfl, h0⟩ | ⟨g, cap, cur, rfl, _, hg, _, _, _, ht⟩
  · exact ⟨none, 0, by rw [h0], fun hp => by omega⟩
  · refine ⟨_, cap, rfl, fun hp => ⟨g, 0, cur, rfl, hg, fun j hj => ?_⟩⟩
    have h1 : (cur.toList.take (zs.length * 1))[j]? = some (.int .i32 (zs[j]?.getD 0)) := by rw [ht, List.getElem?_map, List.getElem?_eq_getElem hj]; rfl
    rw [List.getElem?_take_of_lt (by omega)] at h1
    simpa using h1
theorem Row21.kp {B : Nat} {W W' : World} {v : Value} {zs : List Int} (h : Row21 W v zs) (hk : Kp B W W') : Row21 W' v zs := by
  obtain ⟨a, cap, e, f⟩ := h
  refine ⟨a, cap, e, fun hp => ?_⟩
  obtain ⟨b, off, cur, e2, g, hc⟩ := f hp
  exact ⟨b, off, cur, e2, hk.cel b _ g rfl, hc⟩
theorem Row21.own {β : Type} (v : Value) (zs : List Int) : Own (fun (_ : β) W => Row21 W v zs) := by
  rintro s X Y row ⟨a, cap, e, f⟩ hg hr
  refine ⟨a, cap, e, fun hp => ?_⟩
  obtain ⟨b, off, cur, e2, g, hc⟩ := f hp
  refine ⟨b, off, cur, e2, (hg.block b (Array.getElem?_eq_some_iff.1 g).1 (fun e' => ?_)).trans g, hc⟩
  obtain ⟨o, ho, hcl⟩ := hr b e'.symm
  rw [g] at ho; cases ho; cases hcl
theorem Row21.cell {W : World} {a : Option Addr} {n cap : Nat} {zs : List Int} (h : Row21 W (.slice a n cap) zs) (hn : n = zs.length) (hp : 0 < zs.length) : ∃ b off, a = some ⟨b, off, none⟩ ∧ b < W.heap.size ∧ ∀ j, j < zs.length → W.cell? ⟨b, off + j, none⟩ = some (.int .i32 (zs[j]?.getD 0)) := by
  obtain ⟨a', cap', e, f⟩ := h
  cases e
  obtain ⟨b, off, cur, e2, g, hc⟩ := f hp
  exact ⟨b, off, e2, (Array.getElem?_eq_some_iff.1 g).1, fun j hj => by simp [World.cell?, g, hc j hj]⟩
theorem grown_below {W W' : World} (h : Below W.heap.size W W') : W.grownBy W' none := ⟨h.os, h.tape, h.output, h.size, fun k hk _ => h.block k hk⟩
theorem OwnFrom.below {β : Type} {B : Nat} {J : β → World → Prop} (hJ : OwnFrom B J) {s : β} {W W' : World} (h : J s W) (hb : Below W.heap.size W W') : J s W' :=
  hJ s W W' none h (grown_below hb) (fun r e => by cases e)

/-- The marks of the loops that a function went through. -/
def mk (D : Nat) : Deferred := { target := .collected D, args := #[] }
def Marks (B : Nat) (Ds : List Nat) (W : World) : Prop := ∀ D ∈ Ds, B ≤ D ∧ W.heap[D]? = some (.deferred (some []))
theorem Marks.kp {B : Nat} {Ds : List Nat} {W W' : World} (h : Marks B Ds W) (hk : Kp B W W') : Marks B Ds W' := fun D hD => ⟨(h D hD).1, hk.oth D _ (h D hD).1 (h D hD).2 rfl⟩
theorem Marks.ownFrom {β : Type} {B C : Nat} {Ds : List Nat} (h : ∀ D ∈ Ds, D < C) : OwnFrom C (fun (_ : β) W => Marks B Ds W) :=
  fun s X Y row hs hg hr D hD => ⟨(hs D hD).1, (hg.block D (Array.getElem?_eq_some_iff.1 (hs D hD).2).1 (fun e => by have := (hr D e.symm).1; have := h D hD; omega)).trans (hs D hD).2⟩
theorem leaves_marks {n : Nat} {fn : Func} {tmps : Array Value} {R : Ending → World → Prop} {J : List Int → World → Prop} {xs : List Int} {B : Nat} {v : Value} (hJ : OwnFrom B J) (hres : ∀ W, (results fn tmps).run Tryd.prog W = .ok v W)
    (hR : ∀ W', J xs W' → R (.returned v) W') : ∀ (Ds : List Nat) (W : World), Ds.Nodup → Marks B Ds W → J xs W → LeavesInM Fence.wide n Tryd.prog fn tmps R (Ds.map mk) .returning W
  | [], W, _, _, hj => ⟨_, hres W, hR W hj⟩
  | D :: Ds, W, hn, hm, hj => by
    have hD := hm D (by simp)
    refine ⟨by simp, .inl ⟨D, _, rfl, run_takeDeferred hD.2, ?_⟩⟩
    refine leaves_marks hJ hres hR Ds _ (List.nodup_cons.1 hn).2 (fun E hE => ⟨(hm E (by simp [hE])).1, ?_⟩) (hJ.putObj _ hj hD.1 hD.2 rfl)
    exact (World.putObj_heap_other (fun e => (List.nodup_cons.1 hn).1 (by rw [← e]; exact hE))).trans (hm E (by simp [hE])).2

set_option maxRecDepth 100000 in
set_option maxHeartbeats 1000000 in
/-- norm.apart: its number is boxed; the function value captures the box. -/
theorem apart_in (n : Nat) (r : Int) (w : World) :
    CallsIn Fence.wide n Tryd.prog 68 #[.int .i32 r] w fun e w' => e = .returned (.func (.func 81) #[] #[.pointer (some ⟨w.heap.size, 0, none⟩)]) ∧ w' = w.alloc (.cells #[.int .i32 r] 21) := by
  refine callsIn_of_wp Tryd.func68 rfl trivial ?_ rfl
  simp only [Tryd.ntmps68, List.size_toArray, List.length_cons, List.length_nil, Nat.reduceAdd, Nat.reduceSub, Array.replicate_succ, Array.replicate_zero, List.push_toArray, List.append_toArray, List.nil_append, List.cons_append]
  gi_wp2
  go_ret
  exact ⟨rfl, rfl⟩

theorem dcp_len (r : Int) : (D.dcp r).length ≤ 2 := by
  unfold D.dcp
  split
  · simp
  · split <;> simp
theorem wrap_succ (k : Nat) (h : k < 1000000) : wrap64 ((k : Int) + 1) = ((k + 1 : Nat) : Int) := by unfold wrap64; omega

set_option maxRecDepth 100000 in
set_option maxHeartbeats 2000000 in
theorem apart_step (r : Int) (hp : ∀ p ∈ D.dcp r, ∀ (w : World) (Br : Nat), Boxed w Br 21 (.int .i32 p) → Feeds 81 #[.pointer (some ⟨Br, 0, none⟩)] (fd p) w)
    (w : World) (Br : Nat) (hbr : Boxed w Br 21 (.int .i32 r)) : Feeds 81 #[.pointer (some ⟨Br, 0, none⟩)] (fd r) w := by
  intro l J W hW hJ hY h0 n
  have hbW : Boxed W Br 21 (.int .i32 r) := (hW.block Br hbr.lt).trans hbr
  have hdec := D.decomp_any r
  have hfn := @fd_nil r
  have hfc := @fd_cons r
  have hLl := dcp_len r
  generalize D.dcp r = L at hp hdec hfn hfc hLl
  have HDEC := hid hdec
  have HP := hid hp
  have hc1 := (hbW.alloc (.cells #[.func (.yield l) #[] #[]] 53)).cell
  have hby := Boxed.new W 53 (.func (.yield l) #[] #[])
  obtain ⟨B, hB⟩ : ∃ B, B = W.heap.size := ⟨_, rfl⟩
  rw [← hB] at hby
  have HB := hid hB
  have HJ : Hid (OwnFrom B J) := by rw [hB]; exact hJ
  clear hdec hp hJ
  refine callsIn_of_wp_marks Tryd.func81 rfl trivial ?_ rfl
  simp only [Tryd.ntmps81, List.size_toArray, List.length_cons, List.length_nil, Nat.reduceAdd, Nat.reduceSub, Array.replicate_succ, Array.replicate_zero, List.push_toArray, List.append_toArray, List.nil_append, List.cons_append]
  gi_wp2_with fail
  refine ⟨trivial, (fun h => by cases h), ?_⟩
  refine (callsIn_wide.2 (HDEC.out _)).mono ?_
  rintro e W2 ⟨⟨v, rfl, hI⟩, hB2⟩
  have hrow := Row21.of_ints hI
  have hbb : Below W.heap.size W W2 := ((Below.refl _ W).alloc (Nat.le_refl _) _).trans (hB2.mono (by simp))
  have hy2 : Boxed W2 B 53 (.func (.yield l) #[] #[]) := (hB2.block B (by rw [hB]; simp)).trans hby
  have hr2 : Boxed W2 Br 21 (.int .i32 r) := (hbb.block Br hbW.lt).trans hbW
  have hj2 : J [] W2 := OwnFrom.below HJ.out h0 hbb
  have hs2 : B < W2.heap.size := hy2.lt
  obtain ⟨a, cap, rfl, hrf⟩ := hrow
  rw [← hB]
  clear hI hbb hc1 hby hB hbW hB2
  by_cases hL : L = []
  · subst hL
    have cy := hy2.cell
    have cr := hr2.cell
    have hfd : fd r = [r] := hfn rfl
    obtain ⟨fn, tmps, assign, body, hy, hR⟩ := hY [] r W2 hj2 (by rw [hfd]; simp) (n - 1)
    gi_wp2
    refine ⟨(fun h => by cases h), hR.mono ?_⟩
    rintro e W3 ⟨rfl, hj3, hk3⟩
    gi_wp2
    exact ⟨_, results_none rfl _ _ _, ⟨_, rfl⟩, by rw [hfd]; exact hj3⟩
  · have hLp : 0 < L.length := by cases L with
      | nil => exact absurd rfl hL
      | cons a l => simp
    have hLb : ((L.length : Int) == 0) = false := by simp; omega
    obtain ⟨b, off, cur, rfl, hbk, hcur⟩ := hrf hLp
    have HC := hid hcur
    have hfd : Hid (fd r = L.flatMap fd) := hfc hL
    clear hcur hrf hfn hfc HDEC hL
    gi_wp2_with fail
    refine wpIn_loop (fun act wr => ∃ (k : Nat) (Ds : List Nat) (u4 u5 u6 u12 u13 u14 u18 u19 u20 u21 u22 u23 u24 u25 u26 u27 u28 : Value), k ≤ L.length ∧ Boxed wr B 53 (.func (.yield l) #[] #[]) ∧ wr.heap[b]? = some (.cells cur 21 (0, 0)) ∧ J ((L.take k).flatMap fd) wr ∧ Marks B Ds wr ∧ Ds.Nodup ∧
        act = { tmps := #[.func (.yield l) #[] #[], .pointer (some ⟨Br, 0, none⟩), .pointer (some ⟨B, 0, none⟩), .slice (some ⟨b, off, none⟩) L.length cap, u4, u5, u6, .int .i32 r, .slice (some ⟨b, off, none⟩) L.length cap, .slice (some ⟨b, off, none⟩) L.length cap, .int .i64 L.length, .bool false, u12, u13, u14, .slice (some ⟨b, off, none⟩) L.length cap, .int .i64 L.length, .int .i64 k, u18, u19, u20, u21, u22, u23, u24, u25, u26, u27, u28], defers := Ds.map mk })
      (fun act _ => L.length - (intOf (act.tmps.getD 17 undef)).toNat) ?_ ?_
    · exact ⟨0, [], _, _, _, _, _, _, _, _, _, _, _, _, _, _, _, _, _, Nat.zero_le _, hy2, hbk, by simpa using hj2, (fun D hD => by cases hD), List.nodup_nil, rfl⟩
    · rintro act wr ⟨k, Ds, u4, u5, u6, u12, u13, u14, u18, u19, u20, u21, u22, u23, u24, u25, u26, u27, u28, hk, hyr, hbr', hjr, hmr, hnd, rfl⟩
      by_cases hlt : k < L.length
      · have hltz : (k : Int) < (L.length : Int) := by omega
        have hck : wr.cell? ⟨b, off + k, none⟩ = some (.int .i32 (L[k]?.getD 0)) := by simp [World.cell?, hbr', HC.out k hlt]
        have hpk : L[k]?.getD 0 ∈ L := by rw [List.getElem?_eq_getElem hlt]; exact List.getElem_mem hlt
        have htk : Hid ((L.take (k + 1)).flatMap fd = (L.take k).flatMap fd ++ fd (L[k]?.getD 0)) := by
          show _ = _
          rw [List.take_succ_eq_append_getElem hlt, List.flatMap_append, List.getElem?_eq_getElem hlt]; simp
        have hpre : Hid ((L.take (k + 1)).flatMap fd <+: fd r) := by
          show _ <+: _
          rw [hfd.out]
          conv => rhs; rw [← List.take_append_drop (k + 1) L, List.flatMap_append]
          exact List.prefix_append _ _
        have HPK := hid (HP.out _ hpk)
        generalize L[k]?.getD 0 = p at hck htk HPK
        clear hpk HP
        gi_wp2_with fail
        refine ⟨trivial, (fun h => by cases h), ?_⟩
        refine (apart_in _ p _).mono ?_
        rintro e W3 ⟨rfl, hW3⟩
        gi_wp2_with fail
        clear hW3
        obtain ⟨V, hV⟩ : ∃ V, V = wr.alloc (.cells #[.int .i32 p] 21) := ⟨_, rfl⟩
        have hVb : Below wr.heap.size wr V := by rw [hV]; exact (Below.refl _ wr).alloc (Nat.le_refl _) _
        have hVp : Boxed V wr.heap.size 21 (.int .i32 p) := by rw [hV]; exact Boxed.new wr 21 _
        have hVy : Boxed V B 53 (.func (.yield l) #[] #[]) := (hVb.block B hyr.lt).trans hyr
        have hVc : V.heap[b]? = some (.cells cur 21 (0, 0)) := (hVb.block b (Array.getElem?_eq_some_iff.1 hbr').1).trans hbr'
        have hVj : J ((L.take k).flatMap fd) V := OwnFrom.below HJ.out hjr hVb
        have hVm : Marks B Ds V := fun D hD => ⟨(hmr D hD).1, (hVb.block D (Array.getElem?_eq_some_iff.1 (hmr D hD).2).1).trans (hmr D hD).2⟩
        have hBV : B ≤ V.heap.size := Nat.le_of_lt hVy.lt
        have hDV : ∀ D ∈ Ds, D < V.heap.size := fun D hD => (Array.getElem?_eq_some_iff.1 (hVm D hD).2).1
        have hbV : b < V.heap.size := (Array.getElem?_eq_some_iff.1 hVc).1
        rw [← hV]
        clear hyr hbr' hjr hmr hVb hV hck
        refine range_feeds (gf := 81) (lb := #[.pointer (some ⟨wr.heap.size, 0, none⟩)]) (xs := fd p) rfl (enters_of Tryd.func81 (by kernel_rfl) rfl) (HPK.out V wr.heap.size hVp) rfl
          (fun pre W' => J ((L.take k).flatMap fd ++ pre) W' ∧ Boxed W' B 53 (.func (.yield l) #[] #[]) ∧ W'.heap[b]? = some (.cells cur 21 (0, 0)) ∧ Marks B Ds W')
          (OwnFrom.and (fun s X Y row hs hg hr => OwnFrom.mono HJ.out hBV _ X Y row hs hg hr) (OwnFrom.and (Own.from (boxed_own _ _ _) _) (OwnFrom.and (ownFrom_block hbV) (Marks.ownFrom hDV))))
          ⟨by simpa using hVj, hVy, hVc, hVm⟩
          (fun x => { tmps := #[.func (.yield l) #[] #[], .pointer (some ⟨Br, 0, none⟩), .pointer (some ⟨B, 0, none⟩), .slice (some ⟨b, off, none⟩) L.length cap, u4, .int .i32 p, .int .i32 x, .int .i32 r, .slice (some ⟨b, off, none⟩) L.length cap, .slice (some ⟨b, off, none⟩) L.length cap, .int .i64 L.length, .bool false, u12, u13, u14, .slice (some ⟨b, off, none⟩) L.length cap, .int .i64 L.length, .int .i64 k, .bool true, .pointer (some ⟨b, off + k, none⟩), .int .i32 p, .int .i32 p, .func (.func 81) #[] #[.pointer (some ⟨wr.heap.size, 0, none⟩)], .int .i32 x, u24, u25, u26, u27, u28], defers := [] }) ?assign ?body ?done
        case assign =>
          intro l' x W' m K hK
          gi_wp2
          exact hK
        case body =>
          rintro l' pre x W' m ⟨hj, hyb, hcb, hmb⟩ hpx
          have cy := hyb.cell
          have hq : (L.take k).flatMap fd ++ pre ++ [x] <+: fd r := by
            refine List.IsPrefix.trans ?_ hpre.out
            rw [htk.out, List.append_assoc]
            exact (List.prefix_append_right_inj _).2 hpx
          obtain ⟨fn, tmps, assign, body, hy, hR⟩ := hY _ x W' hj hq (m - 1)
          gi_wp2
          refine ⟨(fun h => by cases h), hR.mono ?_⟩
          rintro e W4 ⟨rfl, hj4, hk4⟩
          rw [← HB.out] at hk4
          gi_wp2
          exact ⟨hk4.mono hBV, by rw [← List.append_assoc]; exact hj4, hk4.boxed hyb (by decide), hk4.cel b _ hcb rfl, hmb.kp hk4⟩
        case done =>
          rintro D W' hD ⟨hj, hyb, hcb, hmb⟩ hdf
          have hws := wrap_succ k (by omega)
          gi_wp2
          refine ⟨⟨k + 1, D :: Ds, _, _, _, _, _, _, _, _, _, _, _, _, _, _, _, _, _, by omega, hyb, hcb, by rw [htk.out]; exact hj, ?_, ?_, rfl⟩, ?_⟩
          · intro E hE
            rcases List.mem_cons.1 hE with rfl | hE
            · exact ⟨by omega, hdf⟩
            · exact hmb E hE
          · exact List.nodup_cons.2 ⟨fun h => by have := hDV D h; omega, hnd⟩
          · simp [intOf]; omega
      · have hltz : ¬ (k : Int) < (L.length : Int) := by omega
        have hkk : Hid ((L.take k).flatMap fd = fd r) := by
          show _ = _
          rw [List.take_of_length_le (by omega), hfd.out]
        gi_wp2
        refine leaves_marks HJ.out (fun W => results_none rfl _ _ _) (fun W' hj => ⟨⟨_, rfl⟩, hj⟩) Ds wr hnd hmr ?_
        rw [← hkk.out]; exact hjr

theorem apart_feeds : ∀ (k : Nat) (r : Int), tall k r = true → ∀ (w : World) (Br : Nat), Boxed w Br 21 (.int .i32 r) → Feeds 81 #[.pointer (some ⟨Br, 0, none⟩)] (fd r) w
  | 0, r, ht, w, Br, hb => apart_step r (fun p hp => by
      have : D.dcp r = [] := by simpa [tall] using ht
      rw [this] at hp; cases hp) w Br hb
  | k + 1, r, ht, w, Br, hb => apart_step r (fun p hp => apart_feeds k p (List.all_eq_true.1 ht p hp)) w Br hb
end Go.Proofs.YtpkegjbmnilmdaaDoor.N
/- The iterators over a list: its numbers, and what they are made of. -/
namespace Go.Proofs.YtpkegjbmnilmdaaDoor.N
open Go.RowKit Go.Shelf
set_option linter.unusedVariables false
attribute [local go_sem] Oper.semAt_some

set_option maxRecDepth 100000 in
set_option maxHeartbeats 1000000 in
theorem allApart_in (n : Nat) (v : Value) (w : World) (hv : ∃ a m c, v = .slice a m c) :
    CallsIn Fence.wide n Tryd.prog 48 #[v] w fun e w' => e = .returned (.func (.func 67) #[] #[.pointer (some ⟨w.heap.size, 0, none⟩)]) ∧ w' = w.alloc (.cells #[v] 38) := by
  obtain ⟨a, m, c, rfl⟩ := hv
  refine callsIn_of_wp Tryd.func48 rfl trivial ?_ rfl
  simp only [Tryd.ntmps48, List.size_toArray, List.length_cons, List.length_nil, Nat.reduceAdd, Nat.reduceSub, Array.replicate_succ, Array.replicate_zero, List.push_toArray, List.append_toArray, List.nil_append, List.cons_append]
  gi_wp2
  go_ret
  exact ⟨rfl, rfl⟩

set_option maxRecDepth 100000 in
set_option maxHeartbeats 2000000 in
theorem all_feeds (w : World) (Bl : Nat) (v : Value) (L : List Int) (hlen : L.length ≤ 100000) (hbl : Boxed w Bl 38 v) (hrow0 : Row21 w v L) : Feeds 67 #[.pointer (some ⟨Bl, 0, none⟩)] (L.flatMap fd) w := by
  intro l J W hW hJ hY h0 n
  have hbW : Boxed W Bl 38 v := (hW.block Bl hbl.lt).trans hbl
  have hrow : Row21 W v L := hrow0.kp (Kp.below (B := 0) hW)
  obtain ⟨a, cap, rfl, hrf⟩ := hrow
  have hc1 := (hbW.alloc (.cells #[.func (.yield l) #[] #[]] 53)).cell
  have hby := Boxed.new W 53 (.func (.yield l) #[] #[])
  obtain ⟨B, hB⟩ : ∃ B, B = W.heap.size := ⟨_, rfl⟩
  rw [← hB] at hby
  have HB := hid hB
  have HJ : Hid (OwnFrom B J) := by rw [hB]; exact hJ
  have hj2 : J [] (W.alloc (.cells #[.func (.yield l) #[] #[]] 53)) := OwnFrom.alloc hJ _ h0
  have hrf2 : 0 < L.length → ∃ b off cur, a = some ⟨b, off, none⟩ ∧ (W.alloc (.cells #[.func (.yield l) #[] #[]] 53)).heap[b]? = some (.cells cur 21 (0, 0)) ∧ ∀ j, j < L.length → cur[off + j]? = some (.int .i32 (L[j]?.getD 0)) := fun hp => by
    obtain ⟨b, off, cur, e2, g, hc⟩ := hrf hp
    exact ⟨b, off, cur, e2, (Below.heap_alloc W _ b (Array.getElem?_eq_some_iff.1 g).1).trans g, hc⟩
  clear hJ hrf
  refine callsIn_of_wp_marks Tryd.func67 rfl trivial ?_ rfl
  simp only [Tryd.ntmps67, List.size_toArray, List.length_cons, List.length_nil, Nat.reduceAdd, Nat.reduceSub, Array.replicate_succ, Array.replicate_zero, List.push_toArray, List.append_toArray, List.nil_append, List.cons_append]
  gi_wp2_with fail
  rw [← hB]
  clear hB
  refine wpIn_loop (fun act wr => ∃ (k : Nat) (Ds : List Nat) (u3 u4 u5 u9 u10 u11 u12 u13 u14 u15 u16 u17 u18 u19 : Value), k ≤ L.length ∧ Boxed wr B 53 (.func (.yield l) #[] #[]) ∧ (0 < L.length → ∃ b off cur, a = some ⟨b, off, none⟩ ∧ wr.heap[b]? = some (.cells cur 21 (0, 0)) ∧ ∀ j, j < L.length → cur[off + j]? = some (.int .i32 (L[j]?.getD 0))) ∧ J ((L.take k).flatMap fd) wr ∧ Marks B Ds wr ∧ Ds.Nodup ∧
      act = { tmps := #[.func (.yield l) #[] #[], .pointer (some ⟨Bl, 0, none⟩), .pointer (some ⟨B, 0, none⟩), u3, u4, u5, .slice a L.length cap, .int .i64 L.length, .int .i64 k, u9, u10, u11, u12, u13, u14, u15, u16, u17, u18, u19], defers := Ds.map mk })
    (fun act _ => L.length - (intOf (act.tmps.getD 8 undef)).toNat) ?_ ?_
  · exact ⟨0, [], _, _, _, _, _, _, _, _, _, _, _, _, _, _, Nat.zero_le _, hby, hrf2, by simpa using hj2, (fun D hD => by cases hD), List.nodup_nil, rfl⟩
  · rintro act wr ⟨k, Ds, u3, u4, u5, u9, u10, u11, u12, u13, u14, u15, u16, u17, u18, u19, hk, hyr, hfr, hjr, hmr, hnd, rfl⟩
    by_cases hlt : k < L.length
    · have hltz : (k : Int) < (L.length : Int) := by omega
      obtain ⟨b, off, cur, rfl, hbr', hcur⟩ := hfr (by omega)
      have hck : wr.cell? ⟨b, off + k, none⟩ = some (.int .i32 (L[k]?.getD 0)) := by simp [World.cell?, hbr', hcur k hlt]
      have HC := hid hcur
      have htk : Hid ((L.take (k + 1)).flatMap fd = (L.take k).flatMap fd ++ fd (L[k]?.getD 0)) := by
        show _ = _
        rw [List.take_succ_eq_append_getElem hlt, List.flatMap_append, List.getElem?_eq_getElem hlt]; simp
      have hpre : Hid ((L.take (k + 1)).flatMap fd <+: L.flatMap fd) := by
        show _ <+: _
        conv => rhs; rw [← List.take_append_drop (k + 1) L, List.flatMap_append]
        exact List.prefix_append _ _
      generalize L[k]?.getD 0 = p at hck htk
      clear hcur hfr hrf2
      gi_wp2_with fail
      refine ⟨trivial, (fun h => by cases h), ?_⟩
      refine (apart_in _ p _).mono ?_
      rintro e W3 ⟨rfl, hW3⟩
      gi_wp2_with fail
      clear hW3
      obtain ⟨V, hV⟩ : ∃ V, V = wr.alloc (.cells #[.int .i32 p] 21) := ⟨_, rfl⟩
      have hVb : Below wr.heap.size wr V := by rw [hV]; exact (Below.refl _ wr).alloc (Nat.le_refl _) _
      have hVp : Boxed V wr.heap.size 21 (.int .i32 p) := by rw [hV]; exact Boxed.new wr 21 _
      have hVy : Boxed V B 53 (.func (.yield l) #[] #[]) := (hVb.block B hyr.lt).trans hyr
      have hVc : V.heap[b]? = some (.cells cur 21 (0, 0)) := (hVb.block b (Array.getElem?_eq_some_iff.1 hbr').1).trans hbr'
      have hVj : J ((L.take k).flatMap fd) V := OwnFrom.below HJ.out hjr hVb
      have hVm : Marks B Ds V := fun D hD => ⟨(hmr D hD).1, (hVb.block D (Array.getElem?_eq_some_iff.1 (hmr D hD).2).1).trans (hmr D hD).2⟩
      have hBV : B ≤ V.heap.size := Nat.le_of_lt hVy.lt
      have hDV : ∀ D ∈ Ds, D < V.heap.size := fun D hD => (Array.getElem?_eq_some_iff.1 (hVm D hD).2).1
      have hbV : b < V.heap.size := (Array.getElem?_eq_some_iff.1 hVc).1
      rw [← hV]
      clear hyr hbr' hjr hmr hVb hV hck hby hj2 hc1 hbW
      refine range_feeds (gf := 81) (lb := #[.pointer (some ⟨wr.heap.size, 0, none⟩)]) (xs := fd p) rfl (enters_of Tryd.func81 (by kernel_rfl) rfl) (apart_feeds 4 p (tall4 p) V wr.heap.size hVp) rfl
        (fun pre W' => J ((L.take k).flatMap fd ++ pre) W' ∧ Boxed W' B 53 (.func (.yield l) #[] #[]) ∧ W'.heap[b]? = some (.cells cur 21 (0, 0)) ∧ Marks B Ds W')
        (OwnFrom.and (fun s X Y row hs hg hr => OwnFrom.mono HJ.out hBV _ X Y row hs hg hr) (OwnFrom.and (Own.from (boxed_own _ _ _) _) (OwnFrom.and (ownFrom_block hbV) (Marks.ownFrom hDV))))
        ⟨by simpa using hVj, hVy, hVc, hVm⟩
        (fun x => { tmps := #[.func (.yield l) #[] #[], .pointer (some ⟨Bl, 0, none⟩), .pointer (some ⟨B, 0, none⟩), u3, .int .i32 p, .int .i32 x, .slice (some ⟨b, off, none⟩) L.length cap, .int .i64 L.length, .int .i64 k, .bool true, .pointer (some ⟨b, off + k, none⟩), .int .i32 p, .int .i32 p, .func (.func 81) #[] #[.pointer (some ⟨wr.heap.size, 0, none⟩)], .int .i32 x, u15, u16, u17, u18, u19], defers := [] }) ?assign ?body ?done
      case assign =>
        intro l' x W' m K hK
        gi_wp2
        exact hK
      case body =>
        rintro l' pre x W' m ⟨hj, hyb, hcb, hmb⟩ hpx
        have cy := hyb.cell
        have hq : (L.take k).flatMap fd ++ pre ++ [x] <+: L.flatMap fd := by
          refine List.IsPrefix.trans ?_ hpre.out
          rw [htk.out, List.append_assoc]
          exact (List.prefix_append_right_inj _).2 hpx
        obtain ⟨fn, tmps, assign, body, hy, hR⟩ := hY _ x W' hj hq (m - 1)
        gi_wp2
        refine ⟨(fun h => by cases h), hR.mono ?_⟩
        rintro e W4 ⟨rfl, hj4, hk4⟩
        rw [← HB.out] at hk4
        gi_wp2
        exact ⟨hk4.mono hBV, by rw [← List.append_assoc]; exact hj4, hk4.boxed hyb (by decide), hk4.cel b _ hcb rfl, hmb.kp hk4⟩
      case done =>
        rintro D W' hD ⟨hj, hyb, hcb, hmb⟩ hdf
        have hws := wrap_succ k (by omega)
        gi_wp2
        refine ⟨⟨k + 1, D :: Ds, _, _, _, _, _, _, _, _, _, _, _, _, _, _, by omega, hyb, (fun _ => ⟨b, off, cur, rfl, hcb, HC.out⟩), by rw [htk.out]; exact hj, ?_, ?_, rfl⟩, ?_⟩
        · intro E hE
          rcases List.mem_cons.1 hE with rfl | hE
          · exact ⟨by omega, hdf⟩
          · exact hmb E hE
        · exact List.nodup_cons.2 ⟨fun h => by have := hDV D h; omega, hnd⟩
        · simp [intOf]; omega
    · have hltz : ¬ (k : Int) < (L.length : Int) := by omega
      have hkk : Hid ((L.take k).flatMap fd = L.flatMap fd) := by
        show _ = _
        rw [List.take_of_length_le (by omega)]
      gi_wp2
      refine leaves_marks HJ.out (fun W => results_none rfl _ _ _) (fun W' hj => ⟨⟨_, rfl⟩, hj⟩) Ds wr hnd hmr ?_
      rw [← hkk.out]; exact hjr
end Go.Proofs.YtpkegjbmnilmdaaDoor.N
