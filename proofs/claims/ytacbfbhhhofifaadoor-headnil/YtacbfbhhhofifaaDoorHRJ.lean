/- Two fields held against each other; the document's Same. (Stage 19.) -/
import Derived.Test.YtacbfbhhhofifaaDoorHRI
import Derived.WalkLawsBesides
import Derived.BigQuiet
import Derived.Deep.QuietTactic
namespace Go.Proofs.YtacbfbhhhofifaaDoor.Hd
open Go.RowKit
open Go.Proofs.YtacbfbhhhofifaaDoor.F (bn bn_length bn_append bn_inj bn_get byte_bd hid bn_extract isEmpty_false isEmpty_true str_eq same_eq)
set_option linter.unusedVariables false

theorem part_one (t : TypeId) (ht : ∀ w, (isAgg t).run Tryd.prog w = .ok false w) (xs : Array Value) (i : Nat) (x : Value) (h : xs[i]? = some x) (w : World) : (part t xs i).run Tryd.prog w = .ok x w := by
  unfold part
  simp [h, ht w, Sem.run_bind]
theorem fields_fld : ((Tryd.prog.fieldsOf 40).toList.map fun f => (f.type, f.offset, decide (f.name = "_"))) = [(9, 0, false), (9, 1, false)] := by kernel_rfl
abbrev tcs (t : Fb) : Array Value := #[.string t.x, .string t.y]
/-- Whether two fields are one. -/
def eqf (a b : Fb) : Bool := (a.x.toList == b.x.toList) && (a.y.toList == b.y.toList)
theorem eq_fld (a b : Fb) (w : World) : (Op.equalIn 10000 40 (.agg (tcs a)) (.agg (tcs b))).run Tryd.prog w = .ok (eqf a b) w := by
  rw [run_equalIn_struct w 9999 40 _ _ (by kernel_rfl) (by kernel_rfl)]
  have hf := fields_fld
  generalize (Tryd.prog.fieldsOf 40).toList = fs at hf ⊢
  match fs, hf with
  | [], hf => cases hf
  | [_], hf => simp at hf
  | _ :: _ :: _ :: _, hf => simp at hf
  | [f0, f1], hf =>
    simp only [List.map_cons, List.map_nil, List.cons.injEq, Prod.mk.injEq, decide_eq_false_iff_not, and_true] at hf
    obtain ⟨⟨t0, o0, n0⟩, ⟨t1, o1, n1⟩⟩ := hf
    have gs : ∀ w, (isAgg 9).run Tryd.prog w = .ok false w := fun w => by kernel_rfl
    simp only [Op.eqFields, ne_eq, n0, n1, not_false_eq_true, if_true, t0, t1, o0, o1, Sem.run_bind]
    rw [part_one _ gs _ 0 (.string a.x) rfl, Result.andThen_ok, part_one _ gs _ 0 (.string b.x) rfl, Result.andThen_ok, run_equalIn_string w 9998 9 _ _ Tryd.underlying9, Result.andThen_ok]
    unfold eqf
    cases hn : (a.x.toList == b.x.toList) with
    | false => simp
    | true =>
      simp only [Bool.not_true, Bool.false_eq_true, if_false, Bool.true_and, Sem.run_bind]
      rw [part_one _ gs _ 1 (.string a.y) rfl, Result.andThen_ok, part_one _ gs _ 1 (.string b.y) rfl, Result.andThen_ok, run_equalIn_string w 9998 9 _ _ Tryd.underlying9, Result.andThen_ok]
      cases (a.y.toList == b.y.toList) <;> simp
theorem neq_fld (a b : Fb) (w : World) : (binOp .neq 40 (.agg (tcs a)) (.agg (tcs b))).run Tryd.prog w = .ok (.bool (!eqf a b)) w := by
  rw [run_neq_struct, eq_fld]; rfl
theorem eql_fld (a b : Fb) (w : World) : (binOp .eql 40 (.agg (tcs a)) (.agg (tcs b))).run Tryd.prog w = .ok (.bool (eqf a b)) w := by
  rw [run_eql_struct, eq_fld]; rfl
theorem eqf_iff {a b : Fb} : eqf a b = true ↔ a.f = b.f := by
  unfold eqf Fb.f
  rw [Bool.and_eq_true, str_eq, str_eq, decide_eq_true_iff, decide_eq_true_iff, Prod.mk.injEq]
theorem drewn {B : Nat} {a w : World} (h : Below B a w) (k : Nat) : Below B a (w.drewN k) := h.trans ⟨rfl, rfl, rfl, Nat.le_refl _, fun _ _ => rfl⟩
/-- Two heads as one? -/
def SmR (a b : H) (e : Ending) : Prop := ∃ r : Bool, e = .returned (.bool r) ∧ (r = true ↔ a = b)
theorem SmR.no {a b : H} (h : a ≠ b) : SmR a b (.returned (.bool false)) := ⟨false, rfl, ⟨(fun h => by cases h), fun e => absurd e h⟩⟩
theorem f_map_step {la lb : List Fb} (hl : la.length = lb.length) (h : ∀ j, j < la.length → (la[j]?.getD z2).f = (lb[j]?.getD z2).f) : la.map Fb.f = lb.map Fb.f := by
  apply List.ext_getElem
  · simp [hl]
  · intro n h1 h2
    rw [List.length_map] at h1 h2
    have := h n h1
    rw [List.getElem?_eq_getElem h1, List.getElem?_eq_getElem h2] at this
    simpa using this
set_option maxRecDepth 100000 in
set_option maxHeartbeats 8000000 in
theorem rsame_wide (M T : ByteArray) (v : Int) (F : Value) (fs : List Fb) (M' T' : ByteArray) (v' : Int) (F' : Value) (fs' : List Fb) (w : World) (hF : FldAt w F fs) (hfl : fs.length ≤ 1000000) (hv0 : 0 ≤ v) (hv1 : v ≤ 255) (hF' : FldAt w F' fs') (hfl' : fs'.length ≤ 1000000) (hv0' : 0 ≤ v') (hv1' : v' ≤ 255) : Calls Tryd.prog 11 #[.agg #[.string M, .string T, .int .u8 v, F], .agg #[.string M', .string T', .int .u8 v', F']] w fun e W' => SmR ⟨bn M, bn T, v, fs.map Fb.f⟩ ⟨bn M', bn T', v', fs'.map Fb.f⟩ e ∧ Below w.heap.size w W' := by
  obtain ⟨ao, cap, rfl, _, hC⟩ := id hF
  obtain ⟨ao', cap', rfl, _, hC'⟩ := id hF'
  have HF := hid hF
  have HF' := hid hF'
  have HC : Hid (0 < fs.length → ∃ b off, ao = some ⟨b, off, none⟩) := fun h => let ⟨b, off, e, _⟩ := hC h; ⟨b, off, e⟩
  have HC' : Hid (0 < fs'.length → ∃ b off, ao' = some ⟨b, off, none⟩) := fun h => let ⟨b, off, e, _⟩ := hC' h; ⟨b, off, e⟩
  clear hF hF' hC hC'
  have HW : Hid (Below w.heap.size w ((w.alloc (.cells #[.string M, .string T, .int .u8 v, .slice ao fs.length cap] 27)).alloc (.cells #[.string M', .string T', .int .u8 v', .slice ao' fs'.length cap'] 27))) := ((Below.refl _ w).alloc (Nat.le_refl _) _).alloc (by simp) _
  by_cases h1 : bn M = bn M'
  rotate_left
  · have HN := hid (SmR.no (a := ⟨bn M, bn T, v, fs.map Fb.f⟩) (b := ⟨bn M', bn T', v', fs'.map Fb.f⟩) (fun e => h1 (congrArg H.m e)))
    have hq : (M.toList == M'.toList) = false := by rw [str_eq]; exact decide_eq_false h1
    clear h1
    go_enter Tryd.func11, Tryd.ntmps11
    go_wp2
    go_ret
    exact ⟨HN.out, HW.out⟩
  obtain rfl : M = M' := bn_inj h1
  by_cases h2 : bn T = bn T'
  rotate_left
  · have HN := hid (SmR.no (a := ⟨bn M, bn T, v, fs.map Fb.f⟩) (b := ⟨bn M, bn T', v', fs'.map Fb.f⟩) (fun e => h2 (congrArg H.t e)))
    have hq : (T.toList == T'.toList) = false := by rw [str_eq]; exact decide_eq_false h2
    clear h2
    go_enter Tryd.func11, Tryd.ntmps11
    go_wp2
    go_ret
    exact ⟨HN.out, HW.out⟩
  obtain rfl : T = T' := bn_inj h2
  by_cases h3 : v = v'
  rotate_left
  · have HN := hid (SmR.no (a := ⟨bn M, bn T, v, fs.map Fb.f⟩) (b := ⟨bn M, bn T, v', fs'.map Fb.f⟩) (fun e => h3 (congrArg H.v e)))
    have hq : (v == v') = false := by simpa using h3
    clear h3
    go_enter Tryd.func11, Tryd.ntmps11
    go_wp2
    go_ret
    exact ⟨HN.out, HW.out⟩
  subst h3
  by_cases h4 : fs.length = fs'.length
  rotate_left
  · have HN := hid (SmR.no (a := ⟨bn M, bn T, v, fs.map Fb.f⟩) (b := ⟨bn M, bn T, v, fs'.map Fb.f⟩) (fun e => h4 (by have := congrArg (fun h : H => h.f.length) e; simpa using this)))
    have hq : ((fs.length : Int) == (fs'.length : Int)) = false := by simp; omega
    clear h4
    go_enter Tryd.func11, Tryd.ntmps11
    go_wp2
    go_ret
    exact ⟨HN.out, HW.out⟩
  have hq : ((fs.length : Int) == (fs'.length : Int)) = true := by simp; omega
  have hq2 : ((fs.length : Int) != (fs'.length : Int)) = false := by simp; omega
  have HIF : Hid ((∀ j, j < fs.length → (fs[j]?.getD z2).f = (fs'[j]?.getD z2).f) → fs.map Fb.f = fs'.map Fb.f) := f_map_step h4
  have HFI : Hid (∀ j, j < fs.length → (fs[j]?.getD z2).f ≠ (fs'[j]?.getD z2).f → (⟨bn M, bn T, v, fs.map Fb.f⟩ : H) ≠ ⟨bn M, bn T, v, fs'.map Fb.f⟩) := fun j hj hne e => by
    have e2 := congrArg (fun h : H => (h.f)[j]?) e
    simp only [List.getElem?_map] at e2
    rw [List.getElem?_eq_getElem hj, List.getElem?_eq_getElem (by omega)] at e2 hne
    exact hne (by simpa using e2)
  have H4 := hid h4
  clear h4
  go_enter Tryd.func11, Tryd.ntmps11
  go_wp2_with fail
  go_loopw [5] (fun v5 wr => ∃ i : Nat, i ≤ fs.length ∧ v5 = .int .i64 (i : Int) ∧ Hid (∀ j, j < i → (fs[j]?.getD z2).f = (fs'[j]?.getD z2).f) ∧ wr.heap[w.heap.size]? = some (.cells #[.string M, .string T, .int .u8 v, .slice ao fs.length cap] 27 (0, 0)) ∧ wr.heap[w.heap.size + 1]? = some (.cells #[.string M, .string T, .int .u8 v, .slice ao' fs'.length cap'] 27 (0, 0)) ∧ Below w.heap.size w wr) (fun v5 _ => fs.length - (intOf v5).toNat)
  case atStart =>
    refine ⟨0, Nat.zero_le _, rfl, fun j h => absurd h (Nat.not_lt_zero _), ?_, ?_, HW.out⟩
    · exact kept (heap_alloc_last w _) ((Below.refl _ _).alloc (Nat.le_refl _) _)
    · have := heap_alloc_last (w.alloc (.cells #[.string M, .string T, .int .u8 v, .slice ao fs.length cap] 27)) (.cells #[.string M, .string T, .int .u8 v, .slice ao' fs'.length cap'] 27)
      rw [World.size_alloc] at this
      exact this
  case round =>
    obtain ⟨i, hi, rfl, HR, hr1, hr2, hb⟩ := hrel
    have HB := hid hb
    have HR1 := hid hr1
    have HR2 := hid hr2
    have k3 := cell_of_row _ _ 3 _ _ _ hr1
    have k4 := cell_of_row _ _ 3 _ _ _ hr2
    simp only [List.getElem?_toArray, List.getElem?_cons_succ, List.getElem?_cons_zero] at k3 k4
    clear hr1 hr2 hb HW
    by_cases hlt : i < fs.length
    · have hltz : (i : Int) < (fs.length : Int) := by omega
      have hltz' : (i : Int) < (fs'.length : Int) := by have := H4.out; omega
      obtain ⟨b, off, rfl⟩ := HC.out (by omega)
      obtain ⟨b', off', rfl⟩ := HC'.out (by have := H4.out; omega)
      obtain ⟨c0, c1⟩ := (HF.out.below HB.out).cell hlt
      obtain ⟨d0, d1⟩ := (HF'.out.below HB.out).cell (j := i) (by have := H4.out; omega)
      have HX := hid (HFI.out i hlt)
      have HNE := neq_fld (fs[i]?.getD z2) (fs'[i]?.getD z2)
      obtain ⟨r, hr⟩ : ∃ r, eqf (fs[i]?.getD z2) (fs'[i]?.getD z2) = r := ⟨_, rfl⟩
      have HE := hid (eqf_iff (a := fs[i]?.getD z2) (b := fs'[i]?.getD z2))
      rw [hr] at HNE HE
      clear hr HIF HFI HC HC'
      obtain ⟨x, hx⟩ : ∃ x, fs[i]?.getD z2 = x := ⟨_, rfl⟩
      obtain ⟨y, hy⟩ : ∃ y, fs'[i]?.getD z2 = y := ⟨_, rfl⟩
      have HXX := hid hx
      have HYY := hid hy
      rw [hx] at c0 c1 HX HNE HE
      rw [hy] at d0 d1 HX HNE HE
      clear hx hy
      cases r with
      | true =>
        go_wp2_with fail
        go_quiet (fail)
        go_wp2
        go_roundw
        case rel => exact ⟨i + 1, by omega, by go_num, fun j hj => by
          by_cases h : j < i
          · exact HR.out j h
          · obtain rfl : j = i := by omega
            rw [HXX.out, HYY.out]; exact HE.out.1 (by first | rfl | trivial), HR1.out, HR2.out, drewn HB.out _⟩
        case measure => simp [intOf]; omega
      | false =>
        have HN := hid (SmR.no (HX.out (fun e => by have := HE.out.2 e; cases this)))
        go_wp2_with fail
        go_quiet (fail)
        go_wp2
        go_ret
        exact ⟨HN.out, drewn HB.out _⟩
    · have hltz : ¬ (i : Int) < (fs.length : Int) := by omega
      have HE := hid (HIF.out fun j hj => HR.out j (by omega))
      clear HR HIF HFI HC HC' HF HF'
      go_wp2
      go_ret
      exact ⟨⟨true, rfl, ⟨fun _ => by rw [HE.out], fun _ => rfl⟩⟩, HB.out⟩
theorem rsame_any (a b : Value) (ha hb : H) (w : World) (hA : HdIs w a ha) (hB : HdIs w b hb) : Calls Tryd.prog 11 #[a, b] w fun e W' => SmR ha hb e ∧ Below w.heap.size w W' := by
  obtain ⟨M, T, v, F, fs, rfl, hF, hfl, hv0, hv1, rfl⟩ := hA
  obtain ⟨M', T', v', F', fs', rfl, hF', hfl', hv0', hv1', rfl⟩ := hB
  exact rsame_wide M T v F fs M' T' v' F' fs' w hF (by omega) hv0 hv1 hF' (by omega) hv0' hv1'
end Go.Proofs.YtacbfbhhhofifaaDoor.Hd
