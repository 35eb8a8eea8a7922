/- What the frames of stage 11 share: what the listed tables hold when the call begins; arrays of eight integers that came in, slices of pieces. (A Door seat.) -/
import Derived.Test.YtpkmpebhlolhaaaDoorRows
import Derived.Test.YtpkmpebhlolhaaaDoorXP
import Derived.ProofKit
import Derived.LaidMore
import Derived.OpenShut
import Derived.Stop.Joined
import Derived.Lib.LaidTab
import Derived.WideKeyArr2
import Derived.Lay
import Derived.LaidLaws
import Derived.Shelf.LaysM
import Derived.Test.YtpkmpebhlolhaaaDoorWL
namespace Go.Proofs
open Go.Shelf Go.RowKit
shelf_lay LaysM.n147 Nm 147 at Tryd as Tryd.laysSplM
end Go.Proofs
namespace Go.Proofs.YtpkmpebhlolhaaaDoor
open Go.ChangeShapes Go.WideShapes Go.ChangeAt Go.RowKit
set_option linter.unusedVariables false

/-- An array of integers that came in. -/
theorem open_arr {H : Type} {enc : TypeId × Value → H} {P : Program} {W : World} {base b0 n : Nat} {sp : Nat → Bool} {held : Bool} {r : Reach} {k e : TypeId} {q : IntKind} {v : Value} {d : DataW H} {ps : List MemPlace} (A : WideMaps.ArrKey P k e n) (he : P.underlying e = some (.int q))
    (hv : Value.okWide P W r b0 k v) (h : DataW.Trod enc P W base sp held k v d ps) : ∃ ms : List Int, ms.length = n ∧ v = .agg (ms.map (Value.int q)).toArray ∧ ∀ m ∈ ms, (Lit.int q m).wf = true := by
  obtain ⟨xs, rfl, hn⟩ := WideMaps.okWide_arr A hv
  obtain ⟨fuel, hf⟩ := h
  cases fuel with
  | zero => simp [DataW.trod] at hf
  | succ m =>
    rw [DataW.trod_step] at hf
    unfold DataW.trodStep at hf
    simp only [A.hu, Value.cells] at hf
    rw [if_pos (by rw [A.size]; simpa using hn)] at hf
    simp only [Option.map_eq_some_iff] at hf
    obtain ⟨ys, hy, _⟩ := hf
    have at_ : ∀ i, i < n → ∃ a, xs.toList[i]? = some (.int q a) ∧ (Lit.int q a).wf = true := fun i hi => by
      obtain ⟨b, _, hb⟩ := Lib.mapM_at hy i i (by simp [hi])
      obtain ⟨a, ea, _, wa⟩ := DataW.trod_int he hb
      rw [A.one, Nat.mul_one] at ea
      refine ⟨a, ?_, wa⟩
      have := congrArg (·[0]?) ea
      simpa [List.getElem?_take, List.getElem?_drop] using this
    obtain ⟨l⟩ := xs
    have hl : l.length = n := by simpa using hn
    have key : ∀ (l : List Value) (n : Nat), l.length = n → (∀ i, i < n → ∃ a, l[i]? = some (.int q a) ∧ (Lit.int q a).wf = true) → ∃ ms : List Int, ms.length = n ∧ l = ms.map (Value.int q) ∧ ∀ m ∈ ms, (Lit.int q m).wf = true := by
      intro l
      induction l with
      | nil => intro n h _; exact ⟨[], by simpa using h, rfl, by simp⟩
      | cons x t ih =>
        intro n h g
        cases n with
        | zero => simp at h
        | succ n =>
          obtain ⟨a, ea, wa⟩ := g 0 (by omega)
          obtain ⟨ms, h1, h2, h3⟩ := ih n (by simpa using h) (fun i hi => by
            obtain ⟨b, eb, wb⟩ := g (i + 1) (by omega)
            exact ⟨b, by simpa using eb, wb⟩)
          simp at ea
          refine ⟨a :: ms, by simp [h1], by rw [List.map_cons, ← h2, ea], ?_⟩
          intro m hm
          rcases List.mem_cons.1 hm with rfl | hm
          · exact wa
          · exact h3 m hm
    obtain ⟨ms, h1, h2, h3⟩ := key l n hl at_
    exact ⟨ms, h1, by rw [h2], h3⟩
theorem u16_nat {m : Int} (h : (Lit.int .u16 m).wf = true) : ∃ a : Nat, m = a ∧ a < 65536 := by
  simp [Lit.wf, IntKind.min, IntKind.max, IntKind.bits, IntKind.signed] at h
  exact ⟨m.toNat, by omega, by omega⟩
/-- An address that came in. -/
theorem open8 {H : Type} {enc : TypeId × Value → H} {P : Program} {W : World} {base b0 : Nat} {sp : Nat → Bool} {held : Bool} {r : Reach} {k e : TypeId} {v : Value} {d : DataW H} {ps : List MemPlace} (A : WideMaps.ArrKey P k e 8) (he : P.underlying e = some (.int .u16))
    (hv : Value.okWide P W r b0 k v) (h : DataW.Trod enc P W base sp held k v d ps) : ∃ a0 a1 a2 a3 a4 a5 a6 a7 : Nat, v = .agg #[.int .u16 a0, .int .u16 a1, .int .u16 a2, .int .u16 a3, .int .u16 a4, .int .u16 a5, .int .u16 a6, .int .u16 a7] ∧ X.Small [a0, a1, a2, a3, a4, a5, a6, a7] := by
  obtain ⟨ms, hl, rfl, hw⟩ := open_arr A he hv h
  match ms, hl, hw with
  | [m0, m1, m2, m3, m4, m5, m6, m7], _, hw =>
    obtain ⟨a0, rfl, h0⟩ := u16_nat (hw m0 (by simp))
    obtain ⟨a1, rfl, h1⟩ := u16_nat (hw m1 (by simp))
    obtain ⟨a2, rfl, h2⟩ := u16_nat (hw m2 (by simp))
    obtain ⟨a3, rfl, h3⟩ := u16_nat (hw m3 (by simp))
    obtain ⟨a4, rfl, h4⟩ := u16_nat (hw m4 (by simp))
    obtain ⟨a5, rfl, h5⟩ := u16_nat (hw m5 (by simp))
    obtain ⟨a6, rfl, h6⟩ := u16_nat (hw m6 (by simp))
    obtain ⟨a7, rfl, h7⟩ := u16_nat (hw m7 (by simp))
    refine ⟨a0, a1, a2, a3, a4, a5, a6, a7, rfl, ?_⟩
    intro v hv
    simp at hv
    rcases hv with rfl | rfl | rfl | rfl | rfl | rfl | rfl | rfl <;> assumption
theorem own : ownKnob Tryd.prog.godebug = none := by kernel_rfl
theorem laidOut : laidOutB Tryd.prog = true := by kernel_rfl
/-- The listed table that is read. -/
abbrev nmT : String := ((Rows.sixTellsRow.laid.map (·.1)).drop 1).headD default
abbrev laidL : List (String × DataW Unit) := Rows.sixTellsRow.laid
/-- What a listed variable holds, wherever it stands in the list. -/
theorem laid_at {P : Program} {w : World} {n : String} {d : DataW Unit} : ∀ {l : List (String × DataW Unit)} {ps : List MemPlace}, DataW.LaidVars P w l ps → (n, d) ∈ l → ∃ g t cs fuel p, P.globalNamed n = some g ∧ (P.globals[g]?).map (·.type) = some t ∧ w.var? P n = some cs ∧ DataW.trod (fun _ => ()) P w 0 (fun _ => true) false fuel t cs.toList = some (d, p)
  | [], _, _, h => by cases h
  | (m, e) :: r, ps, hL, h => by
    obtain ⟨g, t, cs, fuel, p, q, h1, h2, h3, h4, h5, _⟩ := hL
    rcases List.mem_cons.1 h with h | h
    · cases h
      exact ⟨g, t, cs, fuel, p, h1, h2, h3, h4⟩
    · exact laid_at h5 h
set_option maxRecDepth 100000 in
theorem of_laid {W : World} (h : laidMetH Tryd.prog laidL W) : X.Tab W := by
  rw [MakeChecks.laidMetH_plain _ _ _ (by kernel_rfl)] at h
  obtain ⟨ps, hL, _, _⟩ := h
  obtain ⟨g, t, cs, fuel, p, h1, h2, h3, h4⟩ := laid_at (n := nmT) (d := Rows.laid_math_bits_deBruijn64tab) hL (List.mem_of_getElem? (i := 1) rfl)
  obtain rfl := Option.some.inj ((show Tryd.prog.globalNamed nmT = some 5 by kernel_rfl).symm.trans h1)
  obtain rfl := Option.some.inj ((show (Tryd.prog.globals[5]?).map (·.type) = some 108 by kernel_rfl).symm.trans h2)
  obtain ⟨xs, m, _, ex, _, hl, hel⟩ := DataW.trod_array Tryd.underlying108 h4
  have c5 : Tryd.prog.cellsOf 5 = 1 := by kernel_rfl
  have hE := hel 15 (by decide)
  rw [c5, Nat.mul_one, List.getElem?_eq_getElem (by omega)] at hE
  obtain ⟨z, e1, e2, _⟩ := DataW.trod_int Tryd.underlying5 hE
  have e3 : xs.map (·.1) = _ := (DataW.agg.inj (Prod.mk.inj ex).1).symm
  have e4 : (xs.map (·.1))[15]? = some (.lit (.int .u8 4)) := by rw [e3]; rfl
  rw [List.getElem?_map, List.getElem?_eq_getElem (by omega : 15 < xs.length)] at e4
  have hz : z = 4 := by
    have e5 : xs[15].1 = DataW.lit (.int .u8 4) := Option.some.inj e4
    rw [congrArg Prod.fst e2] at e5
    simpa using e5
  unfold X.Tab
  rw [World.var?_cell h1 h3 15]
  have : ((cs.toList.drop 15).take 1)[0]? = some (.int .u8 z) := by rw [e1]; rfl
  rw [hz] at this
  simpa using this
theorem door_met (os : Os) (args : Array Value) : laidMetH Tryd.prog laidL ((World.laidAll Tryd.prog os laidL).forCall (fun _ _ => 0) ⟨#[], args, []⟩).memory := by
  rw [MakeChecks.laidMetH_plain _ _ _ (by kernel_rfl)]
  exact laidMet_laidAll _ (by kernel_rfl) (by kernel_rfl)
theorem door_shaped (os : Os) (args : Array Value) : ((World.laidAll Tryd.prog os laidL).forCall (fun _ _ => 0) ⟨#[], args, []⟩).Shaped Tryd.prog := World.shaped_of_ZipB (by kernel_rfl) (by kernel_rfl)
/-- The listed errors. -/
abbrev nmR : String := ((Rows.sixTellsRow.laid.map (·.1)).drop 4).headD default
abbrev nmS : String := ((Rows.sixTellsRow.laid.map (·.1)).drop 5).headD default
set_option maxRecDepth 100000 in
theorem of_err {W : World} (h : laidMetH Tryd.prog laidL W) : X.Er W := by
  rw [MakeChecks.laidMetH_plain _ _ _ (by kernel_rfl)] at h
  obtain ⟨ps, hL, _, _⟩ := h
  have one : ∀ (n : String) (gg : Nat) (nm : String) (d : DataW Unit), (n, DataW.iface nm d) ∈ laidL → Tryd.prog.globalNamed n = some gg → (Tryd.prog.globals[gg]?).map (·.type) = some 72 → ∃ ev, W.cell? ⟨gg, 0, none⟩ = some ev ∧ X.Face ev := by
    intro n gg nm d hm hn ht
    obtain ⟨g, t, cs, fuel, p, h1, h2, h3, h4⟩ := laid_at hL hm
    obtain rfl := Option.some.inj (hn.symm.trans h1)
    obtain rfl := Option.some.inj (ht.symm.trans h2)
    obtain ⟨_, u, v, hc, _⟩ := iface_of_trod Tryd.underlying72 h4
    refine ⟨.iface u v, ?_, .inr ⟨u, v, rfl⟩⟩
    rw [World.var?_cell h1 h3 0]
    have : cs.toList[0]? = some (.iface u v) := by rw [hc]; rfl
    simpa using this
  exact ⟨one nmS 2 _ _ (List.mem_of_getElem? (i := 5) rfl) (by kernel_rfl) (by kernel_rfl), one nmR 3 _ _ (List.mem_of_getElem? (i := 4) rfl) (by kernel_rfl) (by kernel_rfl)⟩
theorem of_shape {W : World} (h : W.ShapedOpen Tryd.prog) : X.Mx W := by
  obtain ⟨m, hm⟩ := Tryd.laysSplM.s1_3 W h
  have hg : Tryd.laysSplM_ren.g 1 = 0 := by kernel_rfl
  rw [hg] at hm
  exact ⟨m, hm⟩
set_option maxRecDepth 100000 in
/-- A contract that asks the shape of the world besides what is listed. -/
theorem returns_shaped {H : Type} {enc : TypeId × Value → H} {os : Os} {f : FuncId} {fn : Func} {s : ChangeSpec} (started : os.Started) (noInit : Tryd.checked.prog.inits.idxOf? f = none) (hfn : Tryd.checked.prog.funcs[f]? = some fn) {X : World → Array Value → Prop}
    (hX : ∀ (w w' : World) (args : Array Value), w.heap = w'.heap → X w args → X w' args)
    (wit : ∃ (w : World) (tape : Tape) (i : Input), w.os = os ∧ (w.forCall tape i).Shaped Tryd.checked.prog ∧ i.vars = [] ∧ Input.okWide Tryd.checked.prog (w.forCall tape i) .any w.heap.size f i ∧
      ((s.pre enc Tryd.checked.prog fn [] false (w.forCall tape i).memory i.args ∧ X (w.forCall tape i).memory i.args) ∧ sizedMet enc Tryd.checked.prog fn (OpenSpec.ofChange s) false (w.forCall tape i).memory i.args) ∧ Assume.holds {} Tryd.checked.prog (lone (Frame.enter Tryd.checked.prog f i.args .normal) [] (w.forCall tape i)))
    (con : ∀ (W : World) (base : Nat) (args : Array Value) (ds gs : List (DataW H)) (before : List MemPlace),
      (∀ (j : Nat) t v, fn.params[j]? = some t → args[j]? = some v → Value.okWide Tryd.checked.prog W .any base t v) →
      DataW.Whole enc Tryd.checked.prog fn.params.toList s.vars false W args.toList ds gs before → X W args → W.ShapedOpen Tryd.checked.prog →
      Calls Tryd.checked.prog f args W fun e W' => ∃ v, e = .returned v ∧ s.post enc Tryd.checked.prog fn false true false false W args v W') :
    ReturnsInHanded {} Tryd.checked os f .any (fun w args => (s.pre enc Tryd.checked.prog fn [] false w args ∧ X w args) ∧ sizedMet enc Tryd.checked.prog fn (OpenSpec.ofChange s) false w args) (s.post enc Tryd.checked.prog fn false true false false) := by
  refine returnsInHanded_of_calls own started noInit wit (fun w tape i _ sh _ ok pre _ => ?_)
  obtain ⟨_, _, _, fn2, e2, _, _, _, _, vals⟩ := ok
  cases Option.some.inj (e2.symm.trans hfn)
  obtain ⟨⟨⟨ds, gs, bf, whole, _⟩, x⟩, _⟩ := pre
  refine (con (w.forCall tape i) w.heap.size i.args ds gs bf vals (DataW.Whole.of_heap (w := (w.forCall tape i).memory) (w' := w.forCall tape i) (by rfl) whole) (hX (w.forCall tape i).memory (w.forCall tape i) _ (by rfl) x) sh).mono ?_
  rintro e W' ⟨v, rfl, post⟩
  exact ChangeSpec.post_blind post
/-- A slice of pieces that came in. -/
theorem open16 {H : Type} {enc : TypeId × Value → H} {W : World} {base : Nat} {sp : Nat → Bool} {held : Bool} {a : Option Addr} {len cap : Nat} {d : DataW H} {ps : List MemPlace} (h : DataW.Trod enc Tryd.prog W base sp held 37 (.slice a len cap) d ps) : ∃ L, X.Row16 W a len L ∧ len ≤ maxLen := by
  obtain ⟨fuel, hf⟩ := h
  rcases open_ints Tryd.underlying37 Tryd.underlying22 (by kernel_rfl) hf with ⟨hcs, _⟩ | ⟨x, l, c, zs, hcs, _, hl, hm, hz, _, hcell, hwz⟩
  · simp [Value.cells] at hcs
    obtain ⟨rfl, rfl, rfl⟩ := hcs
    exact ⟨[], ⟨rfl, (fun v hv => absurd hv (by simp)), (fun h => absurd h (by decide))⟩, by decide⟩
  · simp [Value.cells] at hcs
    obtain ⟨rfl, rfl, rfl⟩ := hcs
    have hzl : len ≤ zs.length := by rw [hz]; split <;> omega
    have hm' : len ≤ maxLen := Nat.le_trans hl hm
    have hlt : (zs.take len).length = len := by rw [List.length_take]; omega
    refine ⟨(zs.take len).map Int.toNat, ⟨by rw [List.length_map]; exact hlt, ?_, ?_⟩, hm'⟩
    · intro v hv
      obtain ⟨m, hm2, rfl⟩ := List.mem_map.1 hv
      obtain ⟨a, rfl, ha⟩ := u16_nat (hwz m (List.mem_of_mem_take hm2))
      simpa using ha
    · intro h0
      obtain ⟨b, o, rfl, hc⟩ := ints_at hcell (by omega)
      refine ⟨b, o, rfl, fun j hj => ?_⟩
      rw [hc j (by omega)]
      have hj2 : j < zs.length := by omega
      have e1 : zs.getD j 0 = zs[j] := by rw [List.getD_eq_getElem?_getD, List.getElem?_eq_getElem hj2]; rfl
      obtain ⟨a, ea, _⟩ := u16_nat (hwz zs[j] (List.getElem_mem _))
      rw [List.getElem?_map, List.getElem?_take_of_lt hj, List.getElem?_eq_getElem hj2, e1, ea]
      simp
end Go.Proofs.YtpkmpebhlolhaaaDoor
