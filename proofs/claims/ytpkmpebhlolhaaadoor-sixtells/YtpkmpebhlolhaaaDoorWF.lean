/- six.row. (Stage 11.) -/
import Derived.Test.YtpkmpebhlolhaaaDoorWE
import Derived.Test.YtpkmpebhlolhaaaDoorXH
import Derived.Test.YtpkmpebhlolhaaaDoorXS
namespace Go.Proofs.YtpkmpebhlolhaaaDoor.X
open Go.RowKit
open Go.Proofs.YtpkmpebhlolhaaaDoor.F (hx hx_bd vl vl_snoc bn bn_length bn_append bn_inj bn_get byte_bd hid bn_extract isEmpty_false isEmpty_true str_eq same_eq)
set_option linter.unusedVariables false

/-! ### Plain: pieces side by side -/
def al : List (List Int) → Option (List Nat)
  | [] => some []
  | p :: r => put (pc p) (al r)
theorem al_cons {p : List Int} {r : List (List Int)} {L : List Nat} (h : al (p :: r) = some L) : ∃ v M, pc p = some v ∧ al r = some M ∧ L = v :: M := by
  have h' : put (pc p) (al r) = some L := h
  cases hp : pc p with
  | none => rw [hp] at h'; simp [put] at h'
  | some v =>
    cases hq : al r with
    | none => rw [hp, hq] at h'; simp [put] at h'
    | some M => rw [hp, hq] at h'; simp [put] at h'; exact ⟨v, M, rfl, rfl, h'.symm⟩
theorem al_len : ∀ (ps : List (List Int)) (L : List Nat), al ps = some L → L.length = ps.length
  | [], L, h => by cases h; rfl
  | p :: r, L, h => by
    obtain ⟨v, M, _, h2, rfl⟩ := al_cons h
    rw [List.length_cons, al_len r M h2]; rfl
theorem al_none {ps : List (List Int)} {p : List Int} (h : p ∈ ps) (hp : pc p = none) : al ps = none := by
  induction ps with
  | nil => cases h
  | cons q r ih =>
    rcases List.mem_cons.1 h with rfl | h
    · show put (pc p) (al r) = none
      rw [hp]; rfl
    · show put (pc q) (al r) = none
      rw [ih h]
      cases pc q <;> rfl
theorem al_all : ∀ (ps : List (List Int)) (L : List Nat), ps.map pc = L.map some → al ps = some L
  | [], [], _ => rfl
  | [], _ :: _, h => by simp at h
  | _ :: _, [], h => by simp at h
  | p :: r, v :: M, h => by
    simp only [List.map_cons, List.cons.injEq] at h
    show put (pc p) (al r) = _
    rw [h.1, al_all r M h.2]; rfl
/-- What six.row reads. -/
def rwd (l : List Int) : Option (List Nat) := if l = [] then some [] else if (spB 58 l).length ≤ 8 then al (spB 58 l) else none
def z (n : Nat) : List Nat := List.replicate n 0
theorem rwd_len {l : List Int} {L : List Nat} (h : rwd l = some L) : L.length ≤ 8 := by
  unfold rwd at h
  split at h
  · cases h; simp
  · split at h
    · rename_i h8
      rw [al_len _ L h]; exact h8
    · cases h
/-- What six.row answers. -/
def RowR (o : Option (List Nat)) (e : Ending) : Prop := (∃ v : List Nat, o = some v ∧ v.length ≤ 8 ∧ e = .returned (.tuple #[.agg (u16s (v ++ z (8 - v.length))).toArray, .int .i64 (v.length : Int), .bool true])) ∨ (o = none ∧ ∃ X : List Nat, X.length = 8 ∧ e = .returned (.tuple #[.agg (u16s X).toArray, .int .i64 0, .bool false]))
theorem results_row3 {fn : Func} {p u v : Tmp} {ty : TypeId} (h : fn.results = #[.cell p ty, .tmp u, .tmp v]) (tmps : Array Value) (w : World) (g : Nat) (t : TypeId) (cs : Array Value) (fr : Nat × Nat) (n : Nat) (e : TypeId)
    (hp : tmps.getD p undef = .pointer (some ⟨g, 0, none⟩)) (hg : w.heap[g]? = some (.cells cs t fr))
    (hu : Tryd.prog.underlying ty = some (.array n e)) (hi : (Tryd.prog.info? ty).map (·.size) = some cs.size) :
    (results fn tmps).run Tryd.prog w = .ok (.tuple #[.agg cs, tmps.getD u undef, tmps.getD v undef]) w := by
  simp only [results, h]
  have hp' : tmps[p]?.getD undef = .pointer (some ⟨g, 0, none⟩) := by simpa using hp
  simp [Result.andThen, hp', asAddr, run_loadVar_row w g t ty cs fr (.array n e) hg hu rfl hi]
/-- Pieces so far, in the array. -/
def Fil (ps : List (List Int)) (i : Nat) (X : List Nat) : Prop := X.length = 8 ∧ ∃ L : List Nat, L.length = i ∧ (ps.take i).map pc = L.map some ∧ X = L ++ z (8 - i)
theorem Fil.start (ps : List (List Int)) : Fil ps 0 z8 := ⟨rfl, [], rfl, rfl, rfl⟩
theorem Fil.step {ps : List (List Int)} {i : Nat} {X : List Nat} {v : Nat} {p : List Int} (h : Fil ps i X) (hi : i < 8) (hp : ps[i]? = some p) (hv : pc p = some v) : Fil ps (i + 1) (X.set i v) := by
  obtain ⟨h8, L, h1, h2, h3⟩ := h
  refine ⟨by rw [List.length_set]; exact h8, L ++ [v], by rw [List.length_append, h1]; rfl, ?_, ?_⟩
  · rw [List.take_add_one, hp, List.map_append, h2, List.map_append]
    simp [hv]
  · rw [h3]
    have e : z (8 - i) = 0 :: z (8 - (i + 1)) := by
      unfold z
      rw [show 8 - i = (8 - (i + 1)) + 1 by omega, List.replicate_succ]
    rw [e, List.set_append_right _ _ (by omega), h1, Nat.sub_self]
    simp
theorem Fil.all {ps : List (List Int)} {X : List Nat} {i : Nat} (h : Fil ps i X) (hi : i = ps.length) : ∃ L : List Nat, al ps = some L ∧ L.length = ps.length ∧ X = L ++ z (8 - L.length) := by
  obtain ⟨_, L, h1, h2, h3⟩ := h
  subst hi
  rw [List.take_length] at h2
  exact ⟨L, al_all _ _ h2, h1, by rw [h1]; exact h3⟩
set_option maxRecDepth 100000 in
set_option maxHeartbeats 8000000 in
theorem row_any (U : ByteArray) (hU : U.size ≤ 1000000) (w : World) (hE : Er w) (hM : Mx w) : Calls Tryd.prog 16 #[.string U] w fun e W' => RowR (rwd (bn U)) e ∧ Below w.heap.size w W' := by
  have HNO : Hid (∀ X : List Nat, rwd (bn U) = none → X.length = 8 → RowR (rwd (bn U)) (.returned (.tuple #[.agg (u16s X).toArray, .int .i64 0, .bool false]))) := fun X h h8 => .inr ⟨h, X, h8, rfl⟩
  have HYES : Hid (∀ v : List Nat, rwd (bn U) = some v → RowR (rwd (bn U)) (.returned (.tuple #[.agg (u16s (v ++ z (8 - v.length))).toArray, .int .i64 (v.length : Int), .bool true]))) := fun v h => .inl ⟨v, h, rwd_len h, rfl⟩
  have HB0 : Hid (Below w.heap.size w (w.alloc (.cells (u16s z8).toArray 23))) := (Below.refl _ w).alloc (Nat.le_refl _) _
  have HA0 : Hid ((w.alloc (.cells (u16s z8).toArray 23)).heap[w.heap.size]? = some (.cells (u16s z8).toArray 23 (0, 0))) := heap_alloc_new _ _
  have HZ0 : Hid ((w.alloc (.cells (u16s z8).toArray 23)).heap.size = w.heap.size + 1) := by show _ = _; simp
  have HWE : Hid (w.alloc (.cells (u16s z8).toArray 23) = w.alloc (.cells #[.int .u16 0, .int .u16 0, .int .u16 0, .int .u16 0, .int .u16 0, .int .u16 0, .int .u16 0, .int .u16 0] 23)) := rfl
  have HRW : Hid (U.size ≠ 0 → rwd (bn U) = if (spB 58 (bn U)).length ≤ 8 then al (spB 58 (bn U)) else none) := fun h => by
    unfold rwd
    rw [if_neg (fun e => h (by rw [← bn_length, e]; rfl))]
  have HRE : Hid (U.size = 0 → rwd (bn U) = some []) := fun h => by
    unfold rwd
    rw [if_pos (List.eq_nil_of_length_eq_zero (by rw [bn_length]; exact h))]
  have hmem := sp_mem 58 (bn U)
  rw [bn_length] at hmem
  have HMEM := hid hmem
  have HEM := hid (isEmpty_false U)
  have HEM0 := hid (isEmpty_true U)
  obtain ⟨o, ho⟩ : ∃ o, rwd (bn U) = o := ⟨_, rfl⟩
  rw [ho] at HNO HYES HRW HRE ⊢
  clear ho hmem
  have HXL : Hid (z8.length = 8) := rfl
  by_cases h0 : U.size = 0
  · have HR := hid (HYES.out [] (HRE.out h0))
    have hem := HEM0.out h0
    clear HYES HRE HNO HRW h0 HEM HEM0
    go_enter Tryd.func16, Tryd.ntmps16
    go_wp2_with (first
      | (refine wpList_load_row rfl 23 (.tmp 2) rfl w.heap.size rfl 23 (u16s z8).toArray (0, 0) _ HA0.out Tryd.underlying23 rfl (info8X HXL.out) ?_)
      | (refine wpList_store_row rfl 23 (.tmp 2) (.tmp 10) rfl w.heap.size (u16s z8).toArray rfl rfl 23 (u16s z8).toArray HA0.out (info8X HXL.out) ((size8 rfl).trans (size8 HXL.out).symm) (one16 z8) ?_))
    exact bodyPost_ret (results_row3 Tryd.results16 _ _ w.heap.size 23 (u16s z8).toArray (0, 0) _ _ rfl (set_row HA0.out) Tryd.underlying23 (info8X HXL.out)) rfl ⟨HR.out, below_row HB0.out (Nat.le_refl _) _⟩
  · have hem := HEM.out (by omega)
    have HRW2 := hid (HRW.out h0)
    have HSP : Hid (∀ W, Mx W → Calls Tryd.prog 26 #[.string U, .string ⟨#[58]⟩, .int .i64 9] W fun e W' => SplQ 58 8 U W e W') := fun W hM => splitn_any 58 8 (by omega) U W (by omega) hM
    have HMX := hid (hM.below HB0.out)
    have HER := hid (hE.below HB0.out)
    clear HRW HRE HEM HEM0 h0 hE hM
    go_enter Tryd.func16, Tryd.ntmps16
    go_wp2_with fail
    rw [← HWE.out]
    obtain ⟨w1, hw1⟩ : ∃ w1, w.alloc (.cells (u16s z8).toArray 23) = w1 := ⟨_, rfl⟩
    rw [hw1] at HB0 HA0 HZ0 HMX HER ⊢
    clear hw1 HWE
    refine (HSP.out w1 HMX.out).mono ?_
    rintro e w2 ⟨⟨g, c, qs, rfl, hcb, hor⟩, B1⟩
    have HB1 := hid (HB0.out.trans (B1.mono HB0.out.size))
    have HER2 := hid (HER.out.below B1)
    have HA1 : Hid (w2.heap[w.heap.size]? = some (.cells (u16s z8).toArray 23 (0, 0))) := (B1.block _ (by rw [HZ0.out]; omega)).trans HA0.out
    have HCB := hid hcb
    have hz2 : w.heap.size < w2.heap.size := by have := HZ0.out; have := B1.size; omega
    clear B1 HSP hcb HMX HER HA0 HB0 HZ0
    by_cases h8 : qs.length ≤ 8
    · have hqs : qs.map bn = spB 58 (bn U) := by
        rcases hor with h | h
        · exact h.2
        · omega
      have HSZ : Hid (∀ i, i < qs.length → (qs[i]?.getD ⟨#[]⟩).size ≤ 1000000) := fun i hi => by
        have h1 : bn (qs[i]?.getD ⟨#[]⟩) ∈ spB 58 (bn U) := by
          rw [← hqs, List.getElem?_eq_getElem hi]
          exact List.mem_map_of_mem (List.getElem_mem hi)
        have := (HMEM.out _ h1).1
        rw [bn_length] at this
        omega
      have HO : Hid (o = al (qs.map bn)) := by
        show _ = _
        rw [HRW2.out, ← hqs, if_pos (by rw [List.length_map]; exact h8)]
      have HLN : Hid ((qs.map bn).length = qs.length) := by show _ = _; rw [List.length_map]
      have HPS : Hid (∀ i, i < qs.length → (qs.map bn)[i]? = some (bn (qs[i]?.getD ⟨#[]⟩))) := fun i hi => by
        rw [List.getElem?_map, List.getElem?_eq_getElem hi]; rfl
      obtain ⟨ps, hps⟩ : ∃ ps, qs.map bn = ps := ⟨_, rfl⟩
      rw [hps] at HO HLN HPS
      obtain ⟨n, hn⟩ : ∃ n, qs.length = n := ⟨_, rfl⟩
      rw [hn] at HCB HSZ HLN HPS h8 ⊢
      clear hor hqs HMEM HRW2 hps hn
      have h8z : ¬ (8 : Int) < (n : Int) := by omega
      have HF0 := hid (Fil.start ps)
      go_wp2_with fail
      go_loopw [4, 19] (fun v4 v19 wr => ∃ (i : Nat) (b : Bool) (X : List Nat), i ≤ n ∧ v4 = .bool b ∧ v19 = .int .i64 (i : Int) ∧ Hid (Fil ps i X) ∧ Hid (wr.heap[w.heap.size]? = some (.cells (u16s X).toArray 23 (0, 0))) ∧ Hid (∀ j, j < n → wr.cell? ⟨g, j, none⟩ = some (.string (qs[j]?.getD ⟨#[]⟩))) ∧ Hid (Er wr) ∧ Hid (Below w.heap.size w wr)) (fun _ v19 _ => n - (intOf v19).toNat)
      case atStart => exact ⟨0, false, z8, by omega, rfl, rfl, HF0, HA1, HCB, HER2, HB1⟩
      case round =>
        obtain ⟨i, b, X, hi, rfl, rfl, HF, HA, HC, HEr, HB⟩ := hrel
        have HXL2 := hid HF.out.1
        by_cases hlt : i < n
        · have hcr := HC.out i hlt
          have HPI := HPS.out i hlt
          have HSI := HSZ.out i hlt
          obtain ⟨D, hD⟩ : ∃ D, qs[i]?.getD ⟨#[]⟩ = D := ⟨_, rfl⟩
          rw [hD] at hcr HPI HSI
          have HPP := hid HPI
          have hltz : (i : Int) < (n : Int) := by omega
          have hi8 : i < 8 := by omega
          have hi8z : (i : Int) < 8 := by omega
          have hgb : g ≠ w.heap.size := by
            intro e
            subst e
            have h1 := HC.out 0 (by omega)
            rw [cell_row HA.out (by rw [HXL2.out]; omega)] at h1
            cases h1
          have hz := Lib.lt_of_cell hcr
          have hzA : w.heap.size < wr.heap.size := by
            rcases Nat.lt_or_ge w.heap.size wr.heap.size with h | h
            · exact h
            · have h5 := HA.out
              rw [Array.getElem?_eq_none h] at h5
              cases h5
          clear hD HPI
          cases hp : pc (bn D) with
          | none =>
            have HN : Hid (o = none) := by
              show _ = _
              rw [HO.out]
              exact al_none (List.mem_of_getElem? HPP.out) hp
            have HPC := hid (piece_no D hp (by omega) wr HEr.out)
            clear hp HPP HO HPS HSZ HCB HF0 HB1 HER2 HA1
            go_wp2_with fail
            refine HPC.out.mono ?_
            rintro e w4 ⟨rfl, B4⟩
            have HA4 : Hid (w4.heap[w.heap.size]? = some (.cells (u16s X).toArray 23 (0, 0))) := (B4.block _ hzA).trans HA.out
            have HB4 := hid (HB.out.trans (B4.mono HB.out.size))
            have hdst := cell_row HA4.out (j := i) (by rw [HXL2.out]; exact hi8)
            have hfz := frozen_of_row w4 w.heap.size i _ _ HA4.out
            have HA5 : Hid ((w4.setCell ⟨w.heap.size, i, none⟩ (.int .u16 ((0 : Nat) : Int))).heap[w.heap.size]? = some (.cells (u16s (X.set i 0)).toArray 23 (0, 0))) := by
              show _ = _
              rw [heap_setCell_same w4 _ i _ _ _ HA4.out, arr_set]
            have HB5 := hid (HB4.out.setCell (p := ⟨w.heap.size, i, none⟩) (Nat.le_refl _) (.int .u16 ((0 : Nat) : Int)))
            have HX5 : Hid ((X.set i 0).length = 8) := by show _ = _; rw [List.length_set]; exact HXL2.out
            clear HF HA HC HPC B4 HB HEr HXL2
            go_wp2_with (first
              | (refine wpList_load_row rfl 23 (.tmp 2) rfl w.heap.size rfl 23 (u16s (X.set i 0)).toArray (0, 0) _ HA5.out Tryd.underlying23 rfl (info8X HX5.out) ?_)
              | (refine wpList_store_row rfl 23 (.tmp 2) (.tmp 33) rfl w.heap.size (u16s (X.set i 0)).toArray rfl rfl 23 (u16s (X.set i 0)).toArray HA5.out (info8X HX5.out) ((size8 HX5.out).trans (size8 HX5.out).symm) (one16 (X.set i 0)) ?_))
            exact bodyPost_ret (results_row3 Tryd.results16 _ _ w.heap.size 23 (u16s (X.set i 0)).toArray (0, 0) _ _ rfl (set_row HA5.out) Tryd.underlying23 (info8X HX5.out)) rfl ⟨HNO.out _ HN.out HX5.out, below_row HB5.out (Nat.le_refl _) _⟩
          | some v =>
            have HF2 := hid (HF.out.step hi8 HPP.out hp)
            have HPC := hid (piece_is D v hp wr)
            clear hp HPP HF
            go_wp2_with fail
            refine HPC.out.mono ?_
            rintro e w4 ⟨rfl, B4⟩
            have HA4 : Hid (w4.heap[w.heap.size]? = some (.cells (u16s X).toArray 23 (0, 0))) := (B4.block _ hzA).trans HA.out
            have HB4 := hid (HB.out.trans (B4.mono HB.out.size))
            have HE4 := hid (HEr.out.below B4)
            have HC4 : Hid (∀ j, j < n → w4.cell? ⟨g, j, none⟩ = some (.string (qs[j]?.getD ⟨#[]⟩))) := fun j hj => (B4.cell (p := ⟨g, j, none⟩) (Lib.lt_of_cell (HC.out j hj))).trans (HC.out j hj)
            have hdst := cell_row HA4.out (j := i) (by rw [HXL2.out]; exact hi8)
            have hfz := frozen_of_row w4 w.heap.size i _ _ HA4.out
            have HA5 : Hid ((w4.setCell ⟨w.heap.size, i, none⟩ (.int .u16 (v : Nat))).heap[w.heap.size]? = some (.cells (u16s (X.set i v)).toArray 23 (0, 0))) := by
              show _ = _
              rw [heap_setCell_same w4 _ i _ _ _ HA4.out, arr_set]
            have HC5 : Hid (∀ j, j < n → (w4.setCell ⟨w.heap.size, i, none⟩ (.int .u16 (v : Nat))).cell? ⟨g, j, none⟩ = some (.string (qs[j]?.getD ⟨#[]⟩))) := fun j hj => (cell_other w4 _ i g j _ hgb).trans (HC4.out j hj)
            have HB5 := hid (HB4.out.setCell (p := ⟨w.heap.size, i, none⟩) (Nat.le_refl _) (.int .u16 (v : Nat)))
            have HE5 : Hid (Er (w4.setCell ⟨w.heap.size, i, none⟩ (.int .u16 (v : Nat)))) := by
              obtain ⟨⟨a, h1, h2⟩, ⟨a', h3, h4⟩⟩ := HE4.out
              refine ⟨⟨a, ?_, h2⟩, ⟨a', ?_, h4⟩⟩
              · refine (cell_other w4 _ i _ 0 _ (fun e => ?_)).trans h1
                rw [e, cell_row HA4.out (by rw [HXL2.out]; omega)] at h1
                rcases h2 with rfl | ⟨_, _, rfl⟩ <;> cases h1
              · refine (cell_other w4 _ i _ 0 _ (fun e => ?_)).trans h3
                rw [e, cell_row HA4.out (by rw [HXL2.out]; omega)] at h3
                rcases h4 with rfl | ⟨_, _, rfl⟩ <;> cases h3
            clear HA HC HC4 HPC B4 HB HEr HE4 HXL2
            go_wp2_with fail
            go_roundw
            case rel => exact ⟨i + 1, true, X.set i v, by omega, rfl, by go_num, HF2, HA5, HC5, HE5, HB5⟩
            case measure => simp [intOf]; omega
        · have hin : i = n := by omega
          have hltz : ¬ (i : Int) < (n : Int) := by omega
          obtain ⟨L, l1, l2, l3⟩ := HF.out.all (by rw [HLN.out]; exact hin)
          have HR : Hid (RowR o (.returned (.tuple #[.agg (u16s X).toArray, .int .i64 (n : Int), .bool true]))) := by
            have h5 := HYES.out L (HO.out.trans l1)
            rw [← l3, l2, HLN.out] at h5
            exact h5
          clear l1 l2 l3 HO HPS HSZ HCB HF0 HB1 HER2 HA1 HF HC HEr HNO HYES hin
          go_wp2_with (first
            | (refine wpList_load_row rfl 23 (.tmp 2) rfl w.heap.size rfl 23 (u16s X).toArray (0, 0) _ HA.out Tryd.underlying23 rfl (info8X HXL2.out) ?_)
            | (refine wpList_store_row rfl 23 (.tmp 2) (.tmp 35) rfl w.heap.size (u16s X).toArray rfl rfl 23 (u16s X).toArray HA.out (info8X HXL2.out) ((size8 HXL2.out).trans (size8 HXL2.out).symm) (one16 X) ?_))
          exact bodyPost_ret (results_row3 Tryd.results16 _ _ w.heap.size 23 (u16s X).toArray (0, 0) _ _ rfl (set_row HA.out) Tryd.underlying23 (info8X HXL2.out)) rfl ⟨HR.out, below_row HB.out (Nat.le_refl _) _⟩
    · have HN : Hid (o = none) := by
        show _ = _
        rw [HRW2.out, if_neg]
        rcases hor with ⟨h, h5⟩ | ⟨h, _⟩
        · have := congrArg List.length h5
          rw [List.length_map] at this
          have h6 : (spB 58 (bn U)).length = qs.length := this.symm
          omega
        · have h6 : 8 < (spB 58 (bn U)).length := h
          omega
      have hle : qs.length ≤ 1000001 := by
        rcases hor with ⟨h, h5⟩ | ⟨_, _, h⟩
        · have := congrArg List.length h5
          rw [List.length_map] at this
          omega
        · omega
      have h8z : (8 : Int) < (qs.length : Int) := by omega
      obtain ⟨n, hn⟩ : ∃ n, qs.length = n := ⟨_, rfl⟩
      rw [hn] at h8z hle ⊢
      clear hor HCB hn h8 HMEM HRW2 HYES
      go_wp2_with (first
        | (refine wpList_load_row rfl 23 (.tmp 2) rfl w.heap.size rfl 23 (u16s z8).toArray (0, 0) _ HA1.out Tryd.underlying23 rfl (info8X HXL.out) ?_)
        | (refine wpList_store_row rfl 23 (.tmp 2) (.tmp 16) rfl w.heap.size (u16s z8).toArray rfl rfl 23 (u16s z8).toArray HA1.out (info8X HXL.out) ((size8 rfl).trans (size8 HXL.out).symm) (one16 z8) ?_))
      exact bodyPost_ret (results_row3 Tryd.results16 _ _ w.heap.size 23 (u16s z8).toArray (0, 0) _ _ rfl (set_row HA1.out) Tryd.underlying23 (info8X HXL.out)) rfl ⟨HNO.out _ HN.out HXL.out, below_row HB1.out (Nat.le_refl _) _⟩
end Go.Proofs.YtpkmpebhlolhaaaDoor.X
