/- What the frames of stage 15 share: what the listed tables hold when the call begins; slices of tokens that came in. (A Door seat, a pinned table among the listed ones.) -/
import Derived.Test.YtphkdagapoonjaaGreatDoorRows
import Derived.Test.YtphkdagapoonjaaGreatDoorZFO
import Derived.Test.YtphkdagapoonjaaGreatDoorZLSC
import Derived.Test.YtphkdagapoonjaaGreatDoorLSA
import Derived.LaidLaws
import Derived.ProofKit
import Derived.LaidMore
import Derived.OpenShut
import Derived.Stop.Joined
import Derived.Lib.LaidTab
import Derived.Lay
import Derived.Shelf.LaysM
import Derived.Lib.LaidU8T
namespace Go.Proofs
open Go.Shelf Go.RowKit
shelf_lay LaysM.n145 Nm 145 at Tryz as Tryz.laysCutM
end Go.Proofs
namespace Go.Proofs.YtphkdagapoonjaaGreatDoor
open Go.ChangeShapes Go.WideShapes Go.ChangeAt Go.RowKit
set_option linter.unusedVariables false
set_option maxRecDepth 100000

theorem own : ownKnob Tryz.prog.godebug = none := by kernel_rfl
theorem laidOut : laidOutB Tryz.prog = true := by kernel_rfl
abbrev laidL : List (String × DataW Unit) := Rows.lexReadsRow.laid
abbrev nmT : String := ((Rows.lexReadsRow.laid.map (·.1)).drop 1).headD default
theorem laid_at {P : Program} {w : World} {n : String} {d : DataW Unit} : ∀ {l : List (String × DataW Unit)} {ps : List MemPlace}, DataW.LaidVars P w l ps → (n, d) ∈ l → ∃ g t cs fuel p, P.globalNamed n = some g ∧ (P.globals[g]?).map (·.type) = some t ∧ w.var? P n = some cs ∧ DataW.trod (fun _ => ()) P w 0 (fun _ => true) false fuel t cs.toList = some (d, p)
  | [], _, _, h => by cases h
  | (m, e) :: r, ps, hL, h => by
    obtain ⟨g, t, cs, fuel, p, q, h1, h2, h3, h4, h5, _⟩ := hL
    rcases List.mem_cons.1 h with h | h
    · cases h
      exact ⟨g, t, cs, fuel, p, h1, h2, h3, h4⟩
    · exact laid_at h5 h
theorem of_tab {W : World} (h : laidMetH Tryz.prog laidL W) : W.cell? ⟨5, 15, none⟩ = some (.int .u8 4) := by
  rw [MakeChecks.laidMetH_plain _ _ _ (by kernel_rfl)] at h
  obtain ⟨ps, hL, _, _⟩ := h
  obtain ⟨g, t, cs, fuel, p, h1, h2, h3, h4⟩ := laid_at (n := nmT) (d := Rows.laid_math_bits_deBruijn64tab) hL (List.mem_of_getElem? (i := 1) rfl)
  obtain rfl := Option.some.inj ((show Tryz.prog.globalNamed nmT = some 5 by kernel_rfl).symm.trans h1)
  obtain rfl := Option.some.inj ((show (Tryz.prog.globals[5]?).map (·.type) = some 130 by kernel_rfl).symm.trans h2)
  obtain ⟨xs, m, _, ex, _, hl, hel⟩ := DataW.trod_array Tryz.underlying130 h4
  have c5 : Tryz.prog.cellsOf 5 = 1 := by kernel_rfl
  have hE := hel 15 (by decide)
  rw [c5, Nat.mul_one, List.getElem?_eq_getElem (by omega)] at hE
  obtain ⟨z, e1, e2, _⟩ := DataW.trod_int Tryz.underlying5 hE
  have e3 : xs.map (·.1) = _ := (DataW.agg.inj (Prod.mk.inj ex).1).symm
  have e4 : (xs.map (·.1))[15]? = some (.lit (.int .u8 4)) := by rw [e3]; rfl
  rw [List.getElem?_map, List.getElem?_eq_getElem (by omega : 15 < xs.length)] at e4
  have hz : z = 4 := by
    have e5 : xs[15].1 = DataW.lit (.int .u8 4) := Option.some.inj e4
    rw [congrArg Prod.fst e2] at e5
    simpa using e5
  rw [World.var?_cell h1 h3 15]
  have : ((cs.toList.drop 15).take 1)[0]? = some (.int .u8 z) := by rw [e1]; rfl
  rw [hz] at this
  simpa using this
/-- The listed errors. -/
abbrev nmR : String := ((Rows.lexReadsRow.laid.map (·.1)).drop 4).headD default
abbrev nmS : String := ((Rows.lexReadsRow.laid.map (·.1)).drop 5).headD default
theorem of_err {W : World} (h : laidMetH Tryz.prog laidL W) : (∃ ev, W.cell? ⟨6, 0, none⟩ = some ev ∧ (ev = .nilIface ∨ ∃ te pe, ev = .iface te pe)) ∧ ∃ ev, W.cell? ⟨7, 0, none⟩ = some ev ∧ (ev = .nilIface ∨ ∃ te pe, ev = .iface te pe) := by
  rw [MakeChecks.laidMetH_plain _ _ _ (by kernel_rfl)] at h
  obtain ⟨ps, hL, _, _⟩ := h
  have one : ∀ (n : String) (gg : Nat) (nm : String) (d : DataW Unit), (n, DataW.iface nm d) ∈ laidL → Tryz.prog.globalNamed n = some gg → (Tryz.prog.globals[gg]?).map (·.type) = some 54 → ∃ ev, W.cell? ⟨gg, 0, none⟩ = some ev ∧ (ev = .nilIface ∨ ∃ te pe, ev = .iface te pe) := by
    intro n gg nm d hm hn ht
    obtain ⟨g, t, cs, fuel, p, h1, h2, h3, h4⟩ := laid_at hL hm
    obtain rfl := Option.some.inj (hn.symm.trans h1)
    obtain rfl := Option.some.inj (ht.symm.trans h2)
    obtain ⟨_, u, v, hc, _⟩ := iface_of_trod Tryz.underlying54 h4
    refine ⟨.iface u v, ?_, .inr ⟨u, v, rfl⟩⟩
    rw [World.var?_cell h1 h3 0]
    have : cs.toList[0]? = some (.iface u v) := by rw [hc]; rfl
    simpa using this
  exact ⟨one nmS 6 _ _ (List.mem_of_getElem? (i := 5) rfl) (by kernel_rfl) (by kernel_rfl), one nmR 7 _ _ (List.mem_of_getElem? (i := 4) rfl) (by kernel_rfl) (by kernel_rfl)⟩
theorem door_met (os : Os) (args : Array Value) : laidMetH Tryz.prog laidL ((World.laidAll Tryz.prog os laidL).forCall (fun _ _ => 0) ⟨#[], args, []⟩).memory := by
  rw [MakeChecks.laidMetH_plain _ _ _ (by kernel_rfl)]
  exact laidMet_laidAll _ (by kernel_rfl) (by kernel_rfl)
theorem door_shaped (os : Os) (args : Array Value) : ((World.laidAll Tryz.prog os laidL).forCall (fun _ _ => 0) ⟨#[], args, []⟩).Shaped Tryz.prog := World.shaped_of_ZipB (by kernel_rfl) (by kernel_rfl)
theorem of_shape {W : World} (h : W.ShapedOpen Tryz.prog) : ∃ m : Int, W.cell? ⟨3, 0, none⟩ = some (.int .i64 m) := by
  obtain ⟨m, hm⟩ := Tryz.laysCutM.s1_3 W h
  have hg : Tryz.laysCutM_ren.g 1 = 3 := by kernel_rfl
  rw [hg] at hm
  exact ⟨m, hm⟩
/-- What the two tables of utf8 hold. -/
theorem of_tbs {W : World} (h : laidMetH Tryz.prog laidL W) : Lib.Utf8Tabs 0 1 W := by
  rw [MakeChecks.laidMetH_plain _ _ _ (by kernel_rfl)] at h
  obtain ⟨ps, hL, _, _⟩ := h
  have r := Lib.LaidVars_reads hL
  have hx : U8Extra Tryz.prog Tryz.l196_ren := ⟨by kernel_rfl, by kernel_rfl, by kernel_rfl, by kernel_rfl, by kernel_rfl, by kernel_rfl, by kernel_rfl⟩
  have hl : U8Types Tryz.prog Tryz.l196_ren := U8Types.of196 Tryz.l196
  have t := utf8Tabs_of_readsT hl hx (r _ _ (List.mem_of_getElem? (i := 6) (by kernel_rfl))) (r _ _ (List.mem_of_getElem? (i := 3) (by kernel_rfl)))
  have e3 : Tryz.l196_ren.g 3 = 0 := by kernel_rfl
  have e4 : Tryz.l196_ren.g 4 = 1 := by kernel_rfl
  rw [e3, e4] at t
  exact t
/-- What lex wants. -/
theorem of_all {W : World} (h : laidMetH Tryz.prog laidL W) (hS : W.ShapedOpen Tryz.prog) : Lx.Gl W := ⟨of_tbs h, of_shape hS, (of_err h).1, (of_err h).2, of_tab h⟩
/-- A contract that asks the shape of the world besides what is listed. -/
theorem returns_shaped {H : Type} {enc : TypeId × Value → H} {os : Os} {f : FuncId} {fn : Func} {s : ChangeSpec} (started : os.Started) (noInit : Tryz.checked.prog.inits.idxOf? f = none) (hfn : Tryz.checked.prog.funcs[f]? = some fn) {X : World → Array Value → Prop}
    (hX : ∀ (w w' : World) (args : Array Value), w.heap = w'.heap → X w args → X w' args)
    (wit : ∃ (w : World) (tape : Tape) (i : Input), w.os = os ∧ (w.forCall tape i).Shaped Tryz.checked.prog ∧ i.vars = [] ∧ Input.okWide Tryz.checked.prog (w.forCall tape i) .any w.heap.size f i ∧
      ((s.pre enc Tryz.checked.prog fn [] false (w.forCall tape i).memory i.args ∧ X (w.forCall tape i).memory i.args) ∧ sizedMet enc Tryz.checked.prog fn (OpenSpec.ofChange s) false (w.forCall tape i).memory i.args) ∧ Assume.holds {} Tryz.checked.prog (lone (Frame.enter Tryz.checked.prog f i.args .normal) [] (w.forCall tape i)))
    (con : ∀ (W : World) (base : Nat) (args : Array Value) (ds gs : List (DataW H)) (before : List MemPlace),
      (∀ (j : Nat) t v, fn.params[j]? = some t → args[j]? = some v → Value.okWide Tryz.checked.prog W .any base t v) →
      DataW.Whole enc Tryz.checked.prog fn.params.toList s.vars false W args.toList ds gs before → (DataW.weightsEach Tryz.checked.prog (fn.params.toList ++ (OpenSpec.ofChange s).bare.plain.varTypes Tryz.checked.prog) (ds ++ gs)).all (· ≤ reachBytes) = true → X W args → W.ShapedOpen Tryz.checked.prog →
      Calls Tryz.checked.prog f args W fun e W' => ∃ v, e = .returned v ∧ s.post enc Tryz.checked.prog fn false true false false W args v W') :
    ReturnsInHanded {} Tryz.checked os f .any (fun w args => (s.pre enc Tryz.checked.prog fn [] false w args ∧ X w args) ∧ sizedMet enc Tryz.checked.prog fn (OpenSpec.ofChange s) false w args) (s.post enc Tryz.checked.prog fn false true false false) := by
  refine returnsInHanded_of_calls own started noInit wit (fun w tape i _ sh _ ok pre _ => ?_)
  obtain ⟨_, _, _, fn2, e2, _, _, _, _, vals⟩ := ok
  cases Option.some.inj (e2.symm.trans hfn)
  obtain ⟨⟨⟨ds, gs, bf, whole, _⟩, x⟩, sz⟩ := pre
  refine (con (w.forCall tape i) w.heap.size i.args ds gs bf vals (DataW.Whole.of_heap (w := (w.forCall tape i).memory) (w' := w.forCall tape i) (by rfl) whole) (sz.weights whole) (hX (w.forCall tape i).memory (w.forCall tape i) _ (by rfl) x) sh).mono ?_
  rintro e W' ⟨v, rfl, post⟩
  exact ChangeSpec.post_blind post
/-- A slice of tokens that came in. -/
theorem open_l {H : Type} {enc : TypeId × Value → H} {W : World} {base : Nat} {sp : Nat → Bool} {held : Bool} {a : Option Addr} {len cap : Nat} {d : DataW H} {ps : List MemPlace} (h : DataW.Trod enc Tryz.prog W base sp held 23 (.slice a len cap) d ps) : ∃ l, Lx.TokAt W (.slice a len cap) l ∧ len ≤ maxLen ∧ (∀ t ∈ l, t.x.size ∈ d.weights Tryz.prog 23) ∧ ∀ t ∈ l, t.k ≤ 255 := by
  obtain ⟨fuel, hf⟩ := h
  obtain ⟨a', len', cap', l, hcs, hm, hat, hw⟩ := Lx.open_toks hf
  simp [Value.cells] at hcs
  obtain ⟨rfl, rfl, rfl⟩ := hcs
  exact ⟨l, hat, hm, fun t ht => (hw t ht).2, fun t ht => (hw t ht).1.1⟩
/-- The first argument's weights. -/
theorem first_weight {H : Type} {P : Program} {t : TypeId} {ts vs : List TypeId} {d : DataW H} {ds gs : List (DataW H)} {ps : List TypeId} (hp : ps = t :: ts) (h : (DataW.weightsEach P (ps ++ vs) ((d :: ds) ++ gs)).all (· ≤ reachBytes) = true) : ∀ k ∈ d.weights P t, k ≤ 140737488351232 := by
  intro k hk
  subst hp
  rw [List.cons_append, List.cons_append, DataW.weightsEach] at h
  exact of_decide_eq_true (List.all_eq_true.1 h k (List.mem_append_left _ hk))
end Go.Proofs.YtphkdagapoonjaaGreatDoor
