/- head: a line that is at its end. (Stage 19.) -/
import Derived.Test.YtacbfbhhhofifaaDoorHPG
import Derived.Test.YtacbfbhhhofifaaDoorGU
namespace Go.Proofs.YtacbfbhhhofifaaDoor.Hd
open Go.RowKit
open Go.Proofs.YtacbfbhhhofifaaDoor.F (bn bn_length bn_append bn_inj bn_get byte_bd hid bn_extract isEmpty_false isEmpty_true str_eq same_eq)
set_option linter.unusedVariables false

theorem bn_nil {t : ByteArray} (h : t.size = 0) : bn t = [] := List.length_eq_zero_iff.1 (by rw [bn_length]; exact h)
theorem bn_ne {t : ByteArray} (h : ¬ t.size = 0) : bn t ≠ [] := fun e => h (by rw [← bn_length, e]; rfl)
/-- The first line. -/
theorem first_any (base : Nat) (W : World) (b : Nat) (s : St) (t : ByteArray) (h : Liv base W b s) (hc : s.cur = []) (hi : s.is = false) (ht : t.size ≤ 4096) (hb : ¬ (bn t = [] ∧ s.blk = false)) :
    Calls Tryd.prog 43 #[.pointer (some ⟨b, 0, none⟩), .string t] W fun e W' => TkR base b (fin s (bn t)) e W' ∧ Bel base W W' := by
  have hl : ¬ 4096 < (bn t).length := by rw [bn_length]; omega
  by_cases hf : (frst (bn t)).2 = 0
  · rw [fin_first hi hb hl hf]
    exact first_good base W b s t h hc (by omega) hf
  · rw [fin_first_no hi hb hl hf]
    exact first_bad base W b s t h (by omega) hf
set_option maxRecDepth 100000 in
set_option maxHeartbeats 8000000 in
/-- The line that has none ahead. -/
theorem start_any (base : Nat) (W : World) (b : Nat) (s : St) (t : ByteArray) (h : Liv base W b s) (hc : s.cur = []) (hi : s.is = false) (hk : s.blk = false) (ht : t.size ≤ 4096) :
    Calls Tryd.prog 42 #[.pointer (some ⟨b, 0, none⟩), .string t] W fun e W' => TkR base b (fin s (bn t)) e W' ∧ Bel base W W' := by
  by_cases h0 : t.size = 0
  · have hE := isEmpty_true t h0
    rw [fin_blank hi (bn_nil h0) hk]
    have HL := hid h
    obtain ⟨L, M, T, v, F, fs, hm, hr⟩ := h.ex
    have HM := hid hm
    have HR := hid hr
    clear hm hr h
    go_enter Tryd.func42, Tryd.ntmps42
    go_wp2_with (refine wpList_store_in rfl 60 (.tmp 8) (.const (.int .u8 2)) rfl b 0 (.int .u8 2) rfl rfl rfl 62 _ HM.out.row (show (0 : Nat) < 8 by decide) (by kernel_rfl) ?_)
    obtain ⟨m2, b2, _⟩ := HM.out.set 2 0 s.n L M T v F s.cur fs HM.out.ln HM.out.fl
    refine bodyPost_ret (v := .tuple #[]) (by simp [results, Tryd.results42]) rfl ?_
    have hst : stN { s with cur := [], blk := true } = 2 := by unfold stN; rw [hi]; rfl
    rw [hc] at m2
    refine ⟨.inr (.inl ⟨HL.out.e, HL.out.d, rfl, ?_⟩), b2⟩
    exact ⟨⟨L, M, T, v, F, fs, by rw [hst]; exact m2, HR.out⟩, HL.out.d, HL.out.e, Nat.zero_le _, HL.out.n, (fun x hx => by cases hx), HL.out.z⟩
  · have hE := isEmpty_false t (by omega)
    have HF := hid (first_any base W b s t h hc hi ht (fun q => bn_ne h0 q.1))
    obtain ⟨S, hS⟩ : ∃ S, fin s (bn t) = S := ⟨_, rfl⟩
    rw [hS] at HF ⊢
    clear h hS
    go_enter Tryd.func42, Tryd.ntmps42
    go_wp2_with fail
    refine HF.out.mono ?_
    rintro e w1 ⟨⟨h1, rfl, h2⟩ | ⟨h1, h2, rfl, h3⟩ | ⟨h1, h2, rfl, h3⟩, hB⟩
    · have H := hid (And.intro h1 h2)
      have HB := hid hB
      clear h1 h2 hB HF
      go_wp2
      exact ⟨rfl, .inl ⟨H.out.1, rfl, H.out.2⟩, HB.out⟩
    · have H := hid (And.intro h1 (And.intro h2 h3))
      have HB := hid hB
      clear h1 h2 h3 hB HF
      go_wp2
      go_end0
      exact ⟨.inr (.inl ⟨H.out.1, H.out.2.1, rfl, H.out.2.2⟩), HB.out⟩
    · have H := hid (And.intro h1 (And.intro h2 h3))
      have HB := hid hB
      clear h1 h2 h3 hB HF
      go_wp2
      go_end0
      exact ⟨.inr (.inr ⟨H.out.1, H.out.2.1, rfl, H.out.2.2⟩), HB.out⟩
/-- A line behind the first one. -/
theorem field_any (base : Nat) (W : World) (b : Nat) (s : St) (t : ByteArray) (h : Liv base W b s) (hc : s.cur = []) (hi : s.is = true) (ht : t.size ≤ 4096) :
    Calls Tryd.prog 44 #[.pointer (some ⟨b, 0, none⟩), .string t] W fun e W' => TkR base b (fin s (bn t)) e W' ∧ Bel base W W' := by
  by_cases h0 : t.size = 0
  · rw [fin_done hi (bn_nil h0)]
    obtain rfl : t = ⟨#[]⟩ := bn_inj (bn_nil h0)
    exact field_end base W b s h
  · have hl : ¬ 4096 < (bn t).length := by rw [bn_length]; omega
    by_cases hm : 64 ≤ s.h.f.length
    · rw [fin_many hi (bn_ne h0) (.inr hm)]
      exact field_many base W b s t h h0 hm
    · have hn : ¬ (4096 < (bn t).length ∨ 64 ≤ s.h.f.length) := by rintro (q | q); exact hl q; exact hm q
      cases hf : fld (bn t) with
      | none => rw [fin_field_no hi (bn_ne h0) hn hf]; exact field_bad base W b s t h h0 (by omega) hm hf
      | some x => rw [fin_field hi (bn_ne h0) hn hf]; exact field_good base W b s t h hi hc h0 (by omega) hm x hf
/-- What looks at a line. -/
def lkN (s : St) : Nat := if s.is = true then 44 else if s.blk = true then 43 else 42
theorem line_any (base : Nat) (W : World) (b : Nat) (s : St) (t : ByteArray) (h : Liv base W b s) (hc : s.cur = []) (ht : t.size ≤ 4096) :
    Calls Tryd.prog (lkN s) #[.pointer (some ⟨b, 0, none⟩), .string t] W fun e W' => TkR base b (fin s (bn t)) e W' ∧ Bel base W W' := by
  unfold lkN
  cases hi : s.is with
  | true => exact field_any base W b s t h hc hi ht
  | false =>
    cases hk : s.blk with
    | true => exact first_any base W b s t h hc hi ht (fun q => by rw [hk] at q; exact absurd q.2 (by decide))
    | false => exact start_any base W b s t h hc hi hk ht
/-! ### The table of what looks -/
def lkA : Array Value := #[.nilFunc, .func (.func 42) #[] #[], .func (.func 43) #[] #[], .func (.func 44) #[] #[], .nilFunc, .nilFunc]
set_option maxRecDepth 100000 in
theorem lookers_any (w : World) : Calls Tryd.prog 39 #[] w fun e W' => e = .returned (.agg lkA) ∧ Below w.heap.size w W' := by
  have HI : Hid ((Tryd.prog.info? 72).map (·.size) = some 6) := hid (by kernel_rfl)
  have HA := hid (heap_alloc_last w (.cells #[.nilFunc, .nilFunc, .nilFunc, .nilFunc, .nilFunc, .nilFunc] 72))
  go_enter Tryd.func39, Tryd.ntmps39
  go_wp2_with (refine wpList_store_row rfl 72 (.tmp 0) (.tmp 1) rfl w.heap.size lkA rfl rfl 72 _ HA.out HI.out rfl (by kernel_rfl) ?_)
  refine bodyPost_ret (v := .agg lkA) ?_ rfl ⟨rfl, below_setRow ((Below.refl _ w).alloc (Nat.le_refl _) _) (Nat.le_refl _) _⟩
  exact results_cell_row rfl _ _ w.heap.size 72 lkA (0, 0) _ rfl (setRow_heap _ _ _ _ _ _ HA.out) Tryd.underlying72 rfl HI.out
/-! ### A line's end -/
theorem ends_snoc (l : List Int) : ends (l ++ [13] ++ [10]) = l.all (nb 13) := by
  unfold ends
  have e : (l ++ [13] ++ [10]).length - 2 = l.length := by simp
  rw [e, List.append_assoc, List.drop_left' rfl, List.take_left' rfl]
  have : decide (2 ≤ (l ++ ([13] ++ [10])).length ∧ ([13] ++ [10] : List Int) = [13, 10]) = true := decide_eq_true ⟨by simp, rfl⟩
  rw [this, Bool.true_and]
theorem ends_no {l : List Int} (h : l.getLast? ≠ some 13) : ends (l ++ [10]) = false := by
  unfold ends
  rw [Bool.and_eq_false_iff]
  left
  apply decide_eq_false
  rintro ⟨h1, h2⟩
  apply h
  rw [List.getLast?_eq_some_iff]
  have hl : (l ++ [10]).length = l.length + 1 := by simp
  rw [hl] at h1 h2
  refine ⟨l.take (l.length + 1 - 2), ?_⟩
  have e := List.take_append_drop (l.length + 1 - 2) (l ++ [10])
  rw [h2, show ([13, 10] : List Int) = [13] ++ [10] from rfl, ← List.append_assoc] at e
  have e2 := List.append_inj_left' e rfl
  rw [List.take_append_of_le_length (by omega)] at e2
  exact e2.symm
theorem all_fnd (l : List Int) : l.all (nb 13) = decide (opt (fnd l 13 0) < 0) := by
  cases h : fnd l 13 0 with
  | none => rw [fnd_none] at h; exact h
  | some k =>
    have hn : ¬ l.all (nb 13) = true := by
      intro q
      have := fnd_none (l := l) (c := 13)
      rw [h] at this
      exact absurd (this.2 q) (by simp)
    rw [Bool.eq_false_iff.2 hn]
    symm
    apply decide_eq_false
    show ¬ ((k : Int) < 0)
    omega
/-- The same, whatever the line was. -/
theorem TkR.cur {base b : Nat} {s : St} {l : List Int} {e : Ending} {W : World} (hd : s.d = false) (he : s.e = 0) (h : TkR base b (fin { s with cur := [] } l) e W) : TkR base b (fin s l) e W := by
  by_cases hi : s.is = false
  · by_cases h1 : l = [] ∧ s.blk = false
    · rw [fin_blank hi h1.1 h1.2]
      rw [fin_blank (s := { s with cur := [] }) hi h1.1 h1.2] at h
      exact h
    · by_cases h2 : 4096 < l.length
      · rw [fin_target hi h1 h2]
        rw [fin_target (s := { s with cur := [] }) hi h1 h2] at h
        rcases h with h | ⟨h, _⟩ | ⟨h, _⟩
        · exact .inl h
        · cases h
        · cases h
      · by_cases h3 : (frst l).2 = 0
        · rw [fin_first hi h1 h2 h3]
          rw [fin_first (s := { s with cur := [] }) hi h1 h2 h3] at h
          exact h
        · rw [fin_first_no hi h1 h2 h3]
          rw [fin_first_no (s := { s with cur := [] }) hi h1 h2 h3] at h
          rcases h with h | ⟨h, _⟩ | ⟨h, _⟩
          · exact .inl h
          · exact absurd h h3
          · exact absurd h h3
  · have hi : s.is = true := by simpa using hi
    by_cases h1 : l = []
    · rw [fin_done hi h1]
      rw [fin_done (s := { s with cur := [] }) hi h1] at h
      rcases h with h | ⟨_, h, _⟩ | h
      · exact .inl h
      · cases h
      · exact .inr (.inr h)
    · by_cases h2 : 4096 < l.length ∨ 64 ≤ s.h.f.length
      · rw [fin_many hi h1 h2]
        rw [fin_many (s := { s with cur := [] }) hi h1 h2] at h
        rcases h with h | ⟨h, _⟩ | ⟨h, _⟩
        · exact .inl h
        · cases h
        · cases h
      · cases h3 : fld l with
        | none =>
          rw [fin_field_no hi h1 h2 h3]
          rw [fin_field_no (s := { s with cur := [] }) hi h1 h2 h3] at h
          rcases h with h | ⟨h, _⟩ | ⟨h, _⟩
          · exact .inl h
          · cases h
          · cases h
        | some x =>
          rw [fin_field hi h1 h2 h3]
          rw [fin_field (s := { s with cur := [] }) hi h1 h2 h3] at h
          exact h
end Go.Proofs.YtacbfbhhhofifaaDoor.Hd
