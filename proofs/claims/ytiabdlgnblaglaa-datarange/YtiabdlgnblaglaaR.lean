/- Plain: the document's answers are the program's. -/
import Derived.Test.YtiabdlgnblaglaaQ
namespace Go.Proofs.Ytiabdlgnblaglaa
open Go.RowKit Go.Lib Go.Sort Go.Shelf
set_option linter.unusedVariables false

def prj (x : Rr) : Rw := (x.1, x.2.1, x.2.2.1, x.2.2.2.2.2.2.1, x.2.2.2.2.2.2.2.1, x.2.2.2.2.2.2.2.2.1, x.2.2.2.2.2.2.2.2.2.1, x.2.2.2.2.2.2.2.2.2.2)
theorem tab_prj : tab = rtab.map prj := by kernel_rfl
theorem none_lo {d : List Rw} {m r : Int} (h : ∀ x ∈ d, m ≤ x.1) (hr : r < m) : d.find? (inRow r) = none := by
  rw [List.find?_eq_none]
  intro x hx
  have := h x hx
  simp [inRow]; omega
theorem none_hi {d : List Rw} {m r : Int} (h : ∀ x ∈ d, x.2.1 < m) (hr : m ≤ r) : d.find? (inRow r) = none := by
  rw [List.find?_eq_none]
  intro x hx
  have := h x hx
  simp [inRow]; omega
theorem fnd_tab (r : Int) : fnd r = pickR tab r := by
  have g0 : ∀ x ∈ greek, (768 : Int) ≤ x.1 := by decide
  have g1 : ∀ x ∈ hebrew, (1424 : Int) ≤ x.1 := by decide
  have g2 : ∀ x ∈ later, (7680 : Int) ≤ x.1 := by decide
  have k0 : ∀ x ∈ latin, x.2.1 < (768 : Int) := by decide
  have k1 : ∀ x ∈ greek, x.2.1 < (1424 : Int) := by decide
  have k2 : ∀ x ∈ hebrew, x.2.1 < (7680 : Int) := by decide
  unfold fnd pickR tab
  simp only [List.find?_append]
  by_cases h1 : r < 768
  · rw [if_pos h1, none_lo g0 h1, none_lo (m := 1424) g1 (by omega), none_lo (m := 7680) g2 (by omega)]
    simp
  · rw [if_neg h1, none_hi k0 (by omega)]
    by_cases h2 : r < 1424
    · rw [if_pos h2, none_lo g1 h2, none_lo (m := 7680) g2 (by omega)]
      simp
    · rw [if_neg h2, none_hi k1 (by omega)]
      by_cases h3 : r < 7680
      · rw [if_pos h3, none_lo g2 h3]
        simp
      · rw [if_neg h3, none_hi k2 (by omega)]
        simp
theorem fnd_prj (r : Int) : fnd r = prj (rfnd r) := by
  rw [fnd_tab, tab_prj]
  unfold pickR rfnd rpk
  rw [List.find?_map]
  have : (inRow r ∘ prj) = inRr r := rfl
  rw [this]
  cases rtab.find? (inRr r) <;> rfl
theorem rfnd_mem (r : Int) : rfnd r = rz ∨ (rfnd r ∈ rtab ∧ (rfnd r).1 ≤ r ∧ r ≤ (rfnd r).2.1) := by
  unfold rfnd rpk
  cases h : rtab.find? (inRr r) with
  | none => exact .inl rfl
  | some x =>
    refine .inr ⟨List.mem_of_find?_eq_some h, ?_⟩
    have := List.find?_some h
    simpa [inRr] using this
/-- What the document maps a code point of this row to. -/
def rmpd (x : Rr) (r : Int) : List Int := if x.2.2.2.1 ≠ 0 then [r + x.2.2.2.1] else if x.2.2.2.2.2.1 ≠ 0 then [x.2.2.2.2.1, x.2.2.2.2.2.1] else [x.2.2.2.2.1]
def rmp (r : Int) : List Int := if (rfnd r).2.2.1 = 1 ∨ (rfnd r).2.2.1 = 4 then [r] else if (rfnd r).2.2.1 = 3 then rmpd (rfnd r) r else []
def okm (x : Rr) : Bool := decide (x.2.2.1 ≠ 3) || (decide (dist x.1 = x.2.2.2.1) && (decide (x.2.2.2.1 ≠ 0) || (decide (x.1 = x.2.1) && decide (inst x.1 = rmpd x 0))))
theorem okm_all : rtab.all okm = true := by kernel_rfl
theorem rtab_bd : ∀ x ∈ rtab, 0 ≤ x.1 ∧ x.2.1 ≤ 200000 ∧ 0 ≤ x.2.2.1 ∧ x.2.2.1 ≤ 4 ∧ -65248 ≤ x.2.2.2.1 ∧ x.2.2.2.1 ≤ 80 := by decide
theorem rfnd_bd (r : Int) : 0 ≤ (rfnd r).2.2.1 ∧ (rfnd r).2.2.1 ≤ 4 ∧ ((rfnd r).2.2.1 ≠ 0 → 0 ≤ r ∧ r ≤ 200000) ∧ -65248 ≤ (rfnd r).2.2.2.1 ∧ (rfnd r).2.2.2.1 ≤ 80 := by
  rcases rfnd_mem r with e | ⟨hm, h1, h2⟩
  · rw [e]; exact ⟨by decide, by decide, fun h => absurd rfl h, by decide, by decide⟩
  · have := rtab_bd _ hm
    exact ⟨this.2.2.1, this.2.2.2.1, fun _ => by omega, this.2.2.2.2.1, this.2.2.2.2.2⟩
theorem rmp_eq (r : Int) : rmp r = mp r := by
  have hb := rfnd_bd r
  unfold rmp mp
  rw [fnd_prj r]
  have e1 : (prj (rfnd r)).2.2.1 = (rfnd r).2.2.1 := rfl
  have e0 : (prj (rfnd r)).1 = (rfnd r).1 := rfl
  rw [e1, e0]
  by_cases h3 : (rfnd r).2.2.1 = 3
  · rw [if_neg (by omega), if_pos h3, if_neg (by omega), if_pos h3]
    rcases rfnd_mem r with e | ⟨hm, hlo, hhi⟩
    · rw [e] at h3; exact absurd h3 (by decide)
    · have hr := List.all_eq_true.1 okm_all _ hm
      generalize rfnd r = x at h3 hm hlo hhi hr ⊢
      simp only [okm, h3, ne_eq, not_true_eq_false, decide_false, Bool.false_or, Bool.and_eq_true, Bool.or_eq_true, decide_eq_true_eq] at hr
      unfold mpd
      rw [hr.1]
      rcases hr.2 with hs | ⟨heq, hi⟩
      · unfold rmpd; rw [if_pos hs, if_pos hs]
      · by_cases hs : x.2.2.2.1 = 0
        · rw [if_neg (by simpa using hs)]
          have : r = x.1 := by omega
          rw [this, hi]
          unfold rmpd
          simp only [hs, ne_eq, not_true_eq_false, if_false]
        · unfold rmpd; rw [if_pos hs, if_pos hs]
  · by_cases h14 : (rfnd r).2.2.1 = 1 ∨ (rfnd r).2.2.1 = 4
    · rw [if_pos h14, if_neg (by omega), if_neg h3]
    · rw [if_neg h14, if_neg h3, if_pos (by omega)]
theorem ptab_prs : ptab = prs := by kernel_rfl
theorem ptab_len : ptab.length = 80 := by decide
def rdcp (r : Int) : List Int := match ptab.find? (fun x => x.1 == r) with
  | some p => [p.2.1, p.2.2]
  | none => if sgl r ≠ 0 then [sgl r] else []
theorem rdcp_eq (r : Int) : rdcp r = dcp r := by
  unfold rdcp dcp
  rw [ptab_prs]
  cases h : prs.find? (fun x => x.1 == r) with
  | none => rfl
  | some p =>
    have hm := List.mem_of_find?_eq_some h
    have he : p.1 = r := by simpa using List.find?_some h
    have : (prs.all fun p => decide (sgl p.1 = 0)) = true := by kernel_rfl
    have h0 := List.all_eq_true.1 this p hm
    rw [he] at h0
    have h1 : sgl r = 0 := by simpa using h0
    simp [h1]
end Go.Proofs.Ytiabdlgnblaglaa
