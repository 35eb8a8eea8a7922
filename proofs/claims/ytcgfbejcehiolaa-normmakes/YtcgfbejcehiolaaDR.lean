/- Plain: the document's answers are the program's. -/
import Derived.Test.YtcgfbejcehiolaaDQ
namespace Go.Proofs.Ytcgfbejcehiolaa.D
open Go.RowKit Go.Lib Go.Sort Go.Shelf
set_option linter.unusedVariables false

def prj (x : Rr) : Rw := (x.1, x.2.1, x.2.2.1, x.2.2.2.2.2.2.1, x.2.2.2.2.2.2.2.1, x.2.2.2.2.2.2.2.2.1, x.2.2.2.2.2.2.2.2.2.1, x.2.2.2.2.2.2.2.2.2.2)
def tab : List Rw := latin ++ greek ++ hebrew ++ later
theorem tab_prj : tab = rtab.map prj := by kernel_rfl
theorem none_lo {d : List Rw} {m r : Int} (h : ∀ x ∈ d, m ≤ x.1) (hr : r < m) : d.find? (inRow r) = none := by
  rw [List.find?_eq_none]
  intro x hx
  have := h x hx
  simp [inRow]; omega
theorem none_hi {d : List Rw} {m r : Int} (h : ∀ x ∈ d, x.2.1 < m) (hr : m ≤ r) : d.find? (inRow r) = none := by
  rw [List.find?_eq_none]
  intro x hx
  have := h x hx
  simp [inRow]; omega
theorem fnd_tab (r : Int) : fnd r = pickR tab r := by
  have g0 : ∀ x ∈ greek, (768 : Int) ≤ x.1 := by decide
  have g1 : ∀ x ∈ hebrew, (1424 : Int) ≤ x.1 := by decide
  have g2 : ∀ x ∈ later, (7680 : Int) ≤ x.1 := by decide
  have k0 : ∀ x ∈ latin, x.2.1 < (768 : Int) := by decide
  have k1 : ∀ x ∈ greek, x.2.1 < (1424 : Int) := by decide
  have k2 : ∀ x ∈ hebrew, x.2.1 < (7680 : Int) := by decide
  unfold fnd pickR tab
  simp only [List.find?_append]
  by_cases h1 : r < 768
  · rw [if_pos h1, none_lo g0 h1, none_lo (m := 1424) g1 (by omega), none_lo (m := 7680) g2 (by omega)]
    simp
  · rw [if_neg h1, none_hi k0 (by omega)]
    by_cases h2 : r < 1424
    · rw [if_pos h2, none_lo g1 h2, none_lo (m := 7680) g2 (by omega)]
      simp
    · rw [if_neg h2, none_hi k1 (by omega)]
      by_cases h3 : r < 7680
      · rw [if_pos h3, none_lo g2 h3]
        simp
      · rw [if_neg h3, none_hi k2 (by omega)]
        simp
theorem fnd_prj (r : Int) : fnd r = prj (rfnd r) := by
  rw [fnd_tab, tab_prj]
  unfold pickR rfnd rpk
  rw [List.find?_map]
  have : (inRow r ∘ prj) = inRr r := rfl
  rw [this]
  cases rtab.find? (inRr r) <;> rfl
theorem rfnd_mem (r : Int) : rfnd r = rz ∨ (rfnd r ∈ rtab ∧ (rfnd r).1 ≤ r ∧ r ≤ (rfnd r).2.1) := by
  unfold rfnd rpk
  cases h : rtab.find? (inRr r) with
  | none => exact .inl rfl
  | some x =>
    refine .inr ⟨List.mem_of_find?_eq_some h, ?_⟩
    have := List.find?_some h
    simpa [inRr] using this
theorem ptab_prs : ptab = prs := by kernel_rfl
theorem ptab_len : ptab.length = 80 := by decide
def rdcp (r : Int) : List Int := match ptab.find? (fun x => x.1 == r) with
  | some p => [p.2.1, p.2.2]
  | none => if sgl r ≠ 0 then [sgl r] else []
theorem rdcp_eq (r : Int) : rdcp r = dcp r := by
  unfold rdcp dcp
  rw [ptab_prs]
  cases h : prs.find? (fun x => x.1 == r) with
  | none => rfl
  | some p =>
    have hm := List.mem_of_find?_eq_some h
    have he : p.1 = r := by simpa using List.find?_some h
    have : (prs.all fun p => decide (sgl p.1 = 0)) = true := by kernel_rfl
    have h0 := List.all_eq_true.1 this p hm
    rw [he] at h0
    have h1 : sgl r = 0 := by simpa using h0
    simp [h1]
end Go.Proofs.Ytcgfbejcehiolaa.D
