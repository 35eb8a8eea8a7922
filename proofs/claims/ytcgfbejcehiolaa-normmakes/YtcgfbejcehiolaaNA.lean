/- Plain: classes, and what a code point is taken apart into, till nothing is left. -/
import Derived.Test.YtcgfbejcehiolaaDG
import Derived.Test.YtcgfbejcehiolaaSA
namespace Go.Proofs.Ytcgfbejcehiolaa
open Go.RowKit
set_option linter.unusedVariables false

/-- The class of a code point. -/
def cl (r : Int) : Int := (D.fnd r).2.2.2.2.2.1
def pt (r : Int) : Pt := (r, cl r)
def tall : Nat → Int → Bool
  | 0, r => (D.dcp r).isEmpty
  | k + 1, r => (D.dcp r).all (tall k)
def fdn : Nat → Int → List Int
  | 0, r => [r]
  | k + 1, r => if (D.dcp r).isEmpty then [r] else (D.dcp r).flatMap (fdn k)
/-- Taken apart, till nothing is left to take apart. -/
def fd (r : Int) : List Int := fdn 5 r
/-- All that can be taken apart. -/
def keys : List Int := [8486, 8490, 8491] ++ D.prs.map (·.1)
theorem keys_of {r : Int} (h : (D.dcp r).isEmpty = false) : r ∈ keys := by
  unfold D.dcp at h
  by_cases hs : D.sgl r ≠ 0
  · unfold keys
    rw [List.mem_append]
    refine .inl ?_
    unfold D.sgl at hs
    by_cases h1 : r = 8486
    · simp [h1]
    by_cases h2 : r = 8490
    · simp [h2]
    by_cases h3 : r = 8491
    · simp [h3]
    have e1 : (r == 8486) = false := by simpa using h1
    have e2 : (r == 8490) = false := by simpa using h2
    have e3 : (r == 8491) = false := by simpa using h3
    exact absurd (by simp [List.lookup, e1, e2, e3]) hs
  · rw [if_neg hs] at h
    cases he : D.prs.find? (fun x => x.1 == r) with
    | none => rw [he] at h; simp at h
    | some p =>
      unfold keys
      rw [List.mem_append]
      exact .inr (List.mem_map.2 ⟨p, List.mem_of_find?_eq_some he, by simpa using List.find?_some he⟩)
theorem keys_ok : (keys.all fun r => tall 4 r && decide (fdn 5 r = (D.dcp r).flatMap (fdn 5)) && decide (cl r = 0) && (fd r).all (fun c => (D.dcp c).isEmpty) && decide (cl ((fd r).headD 0) = 0) && decide ((fd r).length ≤ 3) && !(fd r).isEmpty) = true := by kernel_rfl
theorem keys_at {r : Int} (h : r ∈ keys) : tall 4 r = true ∧ fd r = (D.dcp r).flatMap fd ∧ cl r = 0 ∧ (∀ c ∈ fd r, D.dcp c = []) ∧ cl ((fd r).headD 0) = 0 ∧ (fd r).length ≤ 3 ∧ fd r ≠ [] := by
  have := List.all_eq_true.1 keys_ok r h
  simp only [Bool.and_eq_true, decide_eq_true_eq, List.all_eq_true, Bool.not_eq_true', List.isEmpty_iff, List.isEmpty_eq_false_iff] at this
  obtain ⟨⟨⟨⟨⟨⟨h1, h2⟩, h3⟩, h4⟩, h5⟩, h6⟩, h7⟩ := this
  exact ⟨h1, h2, h3, h4, h5, h6, h7⟩
theorem tall4 (r : Int) : tall 4 r = true := by
  cases h : (D.dcp r).isEmpty with
  | true => have : D.dcp r = [] := by simpa using h
            show (D.dcp r).all (tall 3) = true
            rw [this]; rfl
  | false => exact (keys_at (keys_of h)).1
theorem fd_nil {r : Int} (h : D.dcp r = []) : fd r = [r] := by
  show (if (D.dcp r).isEmpty then [r] else _) = [r]
  rw [h]; rfl
theorem fd_cons {r : Int} (h : D.dcp r ≠ []) : fd r = (D.dcp r).flatMap fd := (keys_at (keys_of (by simpa using h))).2.1
theorem fd_len (r : Int) : 1 ≤ (fd r).length ∧ (fd r).length ≤ 3 := by
  by_cases h : D.dcp r = []
  · rw [fd_nil h]; simp
  · have := keys_at (keys_of (by simpa using h))
    exact ⟨by have := this.2.2.2.2.2.2; cases e : fd r with
      | nil => exact absurd e this
      | cons a l => simp, this.2.2.2.2.2.1⟩
theorem fd_done {r c : Int} (h : c ∈ fd r) : D.dcp c = [] := by
  by_cases h1 : D.dcp r = []
  · rw [fd_nil h1] at h; simp at h; rw [h]; exact h1
  · exact (keys_at (keys_of (by simpa using h1))).2.2.2.1 c h
theorem fd_head {r : Int} (h : cl r = 0) : cl ((fd r).headD 0) = 0 := by
  by_cases h1 : D.dcp r = []
  · rw [fd_nil h1]; exact h
  · exact (keys_at (keys_of (by simpa using h1))).2.2.2.2.1
theorem fds_len (l : List Int) : (l.flatMap fd).length ≤ l.length * 3 := by
  induction l with
  | nil => simp
  | cons a l ih => rw [List.flatMap_cons, List.length_append, List.length_cons]; have := (fd_len a).2; omega
end Go.Proofs.Ytcgfbejcehiolaa
