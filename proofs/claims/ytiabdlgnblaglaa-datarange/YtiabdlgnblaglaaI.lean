/- Plain facts: what is mapped rests, what looks like something rests, pairs are told by their two. -/
import Derived.Test.YtiabdlgnblaglaaH
namespace Go.Proofs.Ytiabdlgnblaglaa
open Go.RowKit Go.Lib Go.Sort Go.Shelf
set_option linter.unusedVariables false

/-- What is asked of a code point that one of a row is mapped to. -/
def okc (sc c : Int) : Bool := decide ((fnd c).2.2.1 ≠ 3) && decide ((fnd c).2.2.1 ≠ 2) && decide ((fnd c).2.2.2.1 = sc)
def okr (x : Rw) : Bool := decide (x.2.2.1 ≠ 3) || (if dist x.1 ≠ 0 then (List.range (x.2.1 - x.1 + 1).toNat).all (fun i => okc x.2.2.2.1 (x.1 + (i : Int) + dist x.1)) else decide (x.1 = x.2.1) && (inst x.1).all (okc x.2.2.2.1))
theorem okr_all : tab.all okr = true := by kernel_rfl
theorem mp_ok {r c : Int} (hc : c ∈ mp r) : (fnd c).2.2.1 ≠ 3 ∧ (fnd c).2.2.1 ≠ 2 ∧ (fnd c).2.2.2.1 = (fnd r).2.2.2.1 := by
  have hok : ∀ sc x, okc sc x = true → (fnd x).2.2.1 ≠ 3 ∧ (fnd x).2.2.1 ≠ 2 ∧ (fnd x).2.2.2.1 = sc := by
    intro sc x h
    simp only [okc, Bool.and_eq_true, decide_eq_true_eq] at h
    exact ⟨h.1.1, h.1.2, h.2⟩
  unfold mp at hc
  by_cases h1 : (fnd r).2.2.1 = 0 ∨ (fnd r).2.2.1 = 2
  · rw [if_pos h1] at hc; simp at hc
  · rw [if_neg h1] at hc
    by_cases h3 : (fnd r).2.2.1 = 3
    · rw [if_pos h3] at hc
      rcases fnd_mem r with e | ⟨hm, hlo, hhi⟩
      · rw [e] at h3; exact absurd h3 (by decide)
      · have hr := List.all_eq_true.1 okr_all _ hm
        generalize fnd r = x at hc h3 hm hlo hhi hr ⊢
        simp only [okr, h3, ne_eq, not_true_eq_false, decide_false, Bool.false_or] at hr
        unfold mpd at hc
        by_cases hd : dist x.1 ≠ 0
        · rw [if_pos hd] at hc
          rw [if_pos hd] at hr
          obtain rfl : c = r + dist x.1 := by simpa using hc
          have := List.all_eq_true.1 hr (r - x.1).toNat (by rw [List.mem_range]; omega)
          have e : x.1 + ((r - x.1).toNat : Int) + dist x.1 = r + dist x.1 := by omega
          rw [e] at this
          exact hok _ _ this
        · rw [if_neg hd] at hc
          rw [if_neg hd] at hr
          simp only [Bool.and_eq_true, decide_eq_true_eq] at hr
          have e : r = x.1 := by omega
          rw [e] at hc
          exact hok _ _ (List.all_eq_true.1 hr.2 c hc)
    · rw [if_neg h3] at hc
      obtain rfl : c = r := by simpa using hc
      exact ⟨h3, fun h => h1 (.inr h), rfl⟩
theorem mp_len (r : Int) : (mp r).length ≤ 2 := by
  unfold mp
  split
  · simp
  · split
    · unfold mpd
      split
      · simp
      · unfold inst
        cases h : instT.lookup r with
        | none => simp
        | some v =>
          have hm := lookup_mem h
          have : ∀ p ∈ instT, p.2.length ≤ 2 := by decide
          exact this _ hm
    · simp
theorem lk_ok {r c : Int} (hc : c ∈ lk r) : lk c = [c] := by
  unfold lk at hc
  cases h : likeT.lookup r with
  | none =>
    rw [h] at hc
    obtain rfl : c = r := by simpa using hc
    unfold lk; rw [h]; rfl
  | some v =>
    rw [h] at hc
    have hm := lookup_mem h
    have : (likeT.all fun p => p.2.all fun c => decide (lk c = [c])) = true := by kernel_rfl
    have h1 := List.all_eq_true.1 (List.all_eq_true.1 this _ hm) c hc
    simpa using h1
theorem lk_pos (r : Int) : 0 < (lk r).length ∧ (lk r).length ≤ 2 := by
  unfold lk
  cases h : likeT.lookup r with
  | none => simp
  | some v =>
    have hm := lookup_mem h
    have : ∀ p ∈ likeT, 0 < p.2.length ∧ p.2.length ≤ 2 := by decide
    exact this _ hm
theorem fnd_class {r : Int} (h : (fnd r).2.2.2.2.2.1 ≠ 0) : (fnd r).2.2.2.2.2.2.1 = true ∧ (fnd r).2.2.2.2.1 = 8 ∧ (fnd r).2.2.2.2.2.2.2 = 4 ∧ (fnd r).2.2.1 = 1 := by
  rcases fnd_mem r with e | ⟨hm, _⟩
  · rw [e] at h; exact absurd rfl h
  · have : ∀ x ∈ tab, x.2.2.2.2.2.1 ≠ 0 → x.2.2.2.2.2.2.1 = true ∧ x.2.2.2.2.1 = 8 ∧ x.2.2.2.2.2.2.2 = 4 ∧ x.2.2.1 = 1 := by decide
    exact this _ hm h
/-- What is asked of a pair. -/
def okp (p : Tri) : Bool := decide (prf prs p.2.1 p.2.2 = (p.1, true)) && decide ((fnd p.2.1).2.2.2.2.2.1 = 0) && decide ((fnd p.2.2).2.2.2.2.2.1 ≠ 0) && decide ((fnd p.1).2.2.2.2.2.1 = 0) && decide (dcp p.1 = [p.2.1, p.2.2])
theorem okp_all : prs.all okp = true := by kernel_rfl
theorem dcp_cases (r : Int) : (dcp r).length ≤ 1 ∨ ∃ p q, dcp r = [p, q] ∧ prf prs p q = (r, true) ∧ (fnd p).2.2.2.2.2.1 = 0 ∧ (fnd q).2.2.2.2.2.1 ≠ 0 ∧ (fnd r).2.2.2.2.2.1 = 0 := by
  unfold dcp
  by_cases hs : sgl r ≠ 0
  · rw [if_pos hs]; exact .inl (by simp)
  · rw [if_neg hs]
    cases h : prs.find? (fun x => x.1 == r) with
    | none => exact .inl (by simp)
    | some p =>
      have hm := List.mem_of_find?_eq_some h
      have he : p.1 = r := by simpa using List.find?_some h
      have := List.all_eq_true.1 okp_all _ hm
      simp only [okp, Bool.and_eq_true, decide_eq_true_eq] at this
      obtain ⟨⟨⟨⟨h1, h2⟩, h3⟩, h4⟩, h5⟩ := this
      rw [he] at h1 h4
      exact .inr ⟨p.2.1, p.2.2, rfl, h1, h2, h3, h4⟩
theorem prf_cases (a b : Int) : prf prs a b = (0, false) ∨ ∃ x, prf prs a b = (x, true) ∧ dcp x = [a, b] := by
  unfold prf
  cases h : prs.find? (fun x => x.2.1 == a && x.2.2 == b) with
  | none => exact .inl rfl
  | some p =>
    have hm := List.mem_of_find?_eq_some h
    have he := List.find?_some h
    simp only [Bool.and_eq_true, beq_iff_eq] at he
    have := List.all_eq_true.1 okp_all _ hm
    simp only [okp, Bool.and_eq_true, decide_eq_true_eq] at this
    obtain ⟨_, h5⟩ := this
    rw [he.1, he.2] at h5
    exact .inr ⟨p.1, rfl, h5⟩
end Go.Proofs.Ytiabdlgnblaglaa
