/- What the frames of stage 10 share: what the listed tables hold when the call begins; a variable that is not listed holds some number; arrays of four integers that came in. (A Door seat, a pinned table among the listed ones.) -/
import Derived.Test.YtklplalfcpigcaaDoorRows
import Derived.Test.YtklplalfcpigcaaDoorFT
import Derived.ProofKit
import Derived.LaidMore
import Derived.OpenShut
import Derived.Stop.Joined
import Derived.Lib.LaidTab
import Derived.WideKeyArr2
import Derived.Lay
import Derived.Shelf.LaysM
import Derived.Test.YtklplalfcpigcaaDoorFY
namespace Go.Proofs
open Go.Shelf Go.RowKit
shelf_lay LaysM.n147 Nm 147 at Tryd as Tryd.laysSplM
end Go.Proofs
namespace Go.Proofs.YtklplalfcpigcaaDoor
open Go.ChangeShapes Go.WideShapes Go.ChangeAt Go.RowKit
set_option linter.unusedVariables false

/-- An array of four integers that came in. -/
theorem open4 {H : Type} {enc : TypeId × Value → H} {P : Program} {W : World} {base b0 : Nat} {sp : Nat → Bool} {held : Bool} {r : Reach} {k e : TypeId} {q : IntKind} {v : Value} {d : DataW H} {ps : List MemPlace} (A : WideMaps.ArrKey P k e 4) (he : P.underlying e = some (.int q))
    (hv : Value.okWide P W r b0 k v) (h : DataW.Trod enc P W base sp held k v d ps) : ∃ m0 m1 m2 m3, v = .agg #[.int q m0, .int q m1, .int q m2, .int q m3] ∧ (Lit.int q m0).wf = true ∧ (Lit.int q m1).wf = true ∧ (Lit.int q m2).wf = true ∧ (Lit.int q m3).wf = true := by
  obtain ⟨xs, rfl, hn⟩ := WideMaps.okWide_arr A hv
  obtain ⟨fuel, hf⟩ := h
  cases fuel with
  | zero => simp [DataW.trod] at hf
  | succ m =>
    rw [DataW.trod_step] at hf
    unfold DataW.trodStep at hf
    simp only [A.hu, Value.cells] at hf
    rw [if_pos (by rw [A.size]; simpa using hn)] at hf
    simp only [Option.map_eq_some_iff] at hf
    obtain ⟨ys, hy, _⟩ := hf
    have at_ : ∀ i, i < 4 → ∃ a, xs.toList[i]? = some (.int q a) ∧ (Lit.int q a).wf = true := fun i hi => by
      obtain ⟨b, _, hb⟩ := Lib.mapM_at hy i i (by simp [hi])
      obtain ⟨a, ea, _, wa⟩ := DataW.trod_int he hb
      rw [A.one, Nat.mul_one] at ea
      refine ⟨a, ?_, wa⟩
      have := congrArg (·[0]?) ea
      simpa [List.getElem?_take, List.getElem?_drop] using this
    obtain ⟨a0, e0, w0⟩ := at_ 0 (by decide)
    obtain ⟨a1, e1, w1⟩ := at_ 1 (by decide)
    obtain ⟨a2, e2, w2⟩ := at_ 2 (by decide)
    obtain ⟨a3, e3, w3⟩ := at_ 3 (by decide)
    refine ⟨a0, a1, a2, a3, ?_, w0, w1, w2, w3⟩
    obtain ⟨l⟩ := xs
    have hl : l.length = 4 := by simpa using hn
    match l, hl, e0, e1, e2, e3 with
    | [x0, x1, x2, x3], _, e0, e1, e2, e3 =>
      simp at e0 e1 e2 e3
      rw [e0, e1, e2, e3]
theorem own : ownKnob Tryd.prog.godebug = none := by kernel_rfl
theorem laidOut : laidOutB Tryd.prog = true := by kernel_rfl
abbrev laid5 : List (String × DataW Unit) := Rows.fourTellsRow.laid
/-- The third listed variable's name. -/
abbrev nmP : String := ((Rows.fourTellsRow.laid.map (·.1)).drop 2).headD default
theorem gP : Tryd.prog.globalNamed nmP = some 1 := by kernel_rfl
theorem tP : (Tryd.prog.globals[1]?).map (·.type) = some 84 := by kernel_rfl
theorem of_laid {W : World} (h : laidMetH Tryd.prog laid5 W) : F.Pow W := by
  rw [MakeChecks.laidMetH_plain _ _ _ (by kernel_rfl)] at h
  obtain ⟨ps, ⟨g0, t0, cs0, f0, p0, q0, hg0, ht0, hv0, hd0, ⟨g1, t1, cs1, f1, p1, q1, hg1, ht1, hv1, hd1, ⟨g2, t2, cs2, f2, p2, q2, hg2, ht2, hv2, hd2, _, _⟩, _⟩, _⟩, _, _⟩ := h
  obtain rfl := Option.some.inj (gP.symm.trans hg2)
  obtain rfl := Option.some.inj (tP.symm.trans ht2)
  have hT : Lib.TabIs Tryd.prog W nmP .u64 Lib.pow10Tab := by
    unfold Lib.TabIs
    refine hv2.trans ?_
    rw [← Lib.cells_of_tab (zs := Lib.pow10Tab) Tryd.underlying84 Tryd.underlying24 (by kernel_rfl) (by kernel_rfl) hd2]
  unfold Lib.TabIs World.var? at hT
  rw [gP] at hT
  exact hT
theorem door_met (os : Os) (args : Array Value) : laidMetH Tryd.prog laid5 ((World.laidAll Tryd.prog os laid5).forCall (fun _ _ => 0) ⟨#[], args, []⟩).memory := by
  rw [MakeChecks.laidMetH_plain _ _ _ (by kernel_rfl)]
  exact laidMet_laidAll _ (by kernel_rfl) (by kernel_rfl)
theorem door_shaped (os : Os) (args : Array Value) : ((World.laidAll Tryd.prog os laid5).forCall (fun _ _ => 0) ⟨#[], args, []⟩).Shaped Tryd.prog := World.shaped_of_ZipB (by kernel_rfl) (by kernel_rfl)
theorem of_shape {W : World} (h : W.ShapedOpen Tryd.prog) : F.Max W := by
  obtain ⟨m, hm⟩ := Tryd.laysSplM.s1_3 W h
  have hg : Tryd.laysSplM_ren.g 1 = 0 := by kernel_rfl
  rw [hg] at hm
  exact ⟨m, hm⟩
/-- A contract that asks the shape of the world besides what is listed. -/
theorem returns_shaped {H : Type} {enc : TypeId × Value → H} {os : Os} {f : FuncId} {fn : Func} {s : ChangeSpec} (started : os.Started) (noInit : Tryd.checked.prog.inits.idxOf? f = none) (hfn : Tryd.checked.prog.funcs[f]? = some fn) {X : World → Array Value → Prop}
    (hX : ∀ (w w' : World) (args : Array Value), w.heap = w'.heap → X w args → X w' args)
    (wit : ∃ (w : World) (tape : Tape) (i : Input), w.os = os ∧ (w.forCall tape i).Shaped Tryd.checked.prog ∧ i.vars = [] ∧ Input.okWide Tryd.checked.prog (w.forCall tape i) .any w.heap.size f i ∧
      ((s.pre enc Tryd.checked.prog fn [] false (w.forCall tape i).memory i.args ∧ X (w.forCall tape i).memory i.args) ∧ sizedMet enc Tryd.checked.prog fn (OpenSpec.ofChange s) false (w.forCall tape i).memory i.args) ∧ Assume.holds {} Tryd.checked.prog (lone (Frame.enter Tryd.checked.prog f i.args .normal) [] (w.forCall tape i)))
    (con : ∀ (W : World) (base : Nat) (args : Array Value) (ds gs : List (DataW H)) (before : List MemPlace),
      (∀ (j : Nat) t v, fn.params[j]? = some t → args[j]? = some v → Value.okWide Tryd.checked.prog W .any base t v) →
      DataW.Whole enc Tryd.checked.prog fn.params.toList s.vars false W args.toList ds gs before → X W args → W.ShapedOpen Tryd.checked.prog →
      Calls Tryd.checked.prog f args W fun e W' => ∃ v, e = .returned v ∧ s.post enc Tryd.checked.prog fn false true false false W args v W') :
    ReturnsInHanded {} Tryd.checked os f .any (fun w args => (s.pre enc Tryd.checked.prog fn [] false w args ∧ X w args) ∧ sizedMet enc Tryd.checked.prog fn (OpenSpec.ofChange s) false w args) (s.post enc Tryd.checked.prog fn false true false false) := by
  refine returnsInHanded_of_calls own started noInit wit (fun w tape i _ sh _ ok pre _ => ?_)
  obtain ⟨_, _, _, fn2, e2, _, _, _, _, vals⟩ := ok
  cases Option.some.inj (e2.symm.trans hfn)
  obtain ⟨⟨⟨ds, gs, bf, whole, _⟩, x⟩, _⟩ := pre
  refine (con (w.forCall tape i) w.heap.size i.args ds gs bf vals (DataW.Whole.of_heap (w := (w.forCall tape i).memory) (w' := w.forCall tape i) (by rfl) whole) (hX (w.forCall tape i).memory (w.forCall tape i) _ (by rfl) x) sh).mono ?_
  rintro e W' ⟨v, rfl, post⟩
  exact ChangeSpec.post_blind post
end Go.Proofs.YtklplalfcpigcaaDoor
