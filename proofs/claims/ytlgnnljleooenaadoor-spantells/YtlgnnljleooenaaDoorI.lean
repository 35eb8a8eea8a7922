/- Plain facts: between two neighbouring places nothing turns; what Made builds is the normal form. -/
import Derived.Test.YtlgnnljleooenaaDoorV
import Derived.Test.YtlgnnljleooenaaDoorZ
import Derived.Test.YtlgnnljleooenaaDoorY
namespace Go.Proofs.YtlgnnljleooenaaDoor
open Go.RowKit
set_option linter.unusedVariables false

theorem hasP_same {l : List Sp} {e x : Int} (hex : e ≤ x) (h : ∀ s ∈ l, ¬ (e < s.1 ∧ s.1 ≤ x) ∧ ¬ (e < s.2 + 1 ∧ s.2 + 1 ≤ x)) : hasP l x = hasP l e := by
  unfold hasP
  rw [Bool.eq_iff_iff, List.any_eq_true, List.any_eq_true]
  constructor
  · rintro ⟨s, hs, hx⟩
    have := h s hs
    refine ⟨s, hs, ?_⟩
    rw [decide_eq_true_eq] at hx ⊢
    omega
  · rintro ⟨s, hs, hx⟩
    have := h s hs
    refine ⟨s, hs, ?_⟩
    rw [decide_eq_true_eq] at hx ⊢
    omega
theorem mem_start {l : List Sp} {s : Sp} (h : s ∈ l) : s.1 ∈ start l ∧ s.2 + 1 ∈ start l := by
  unfold start raw
  constructor
  · exact List.mem_append_right _ (List.mem_flatMap.2 ⟨s, h, by simp⟩)
  · exact List.mem_append_right _ (List.mem_flatMap.2 ⟨s, h, by simp⟩)
/-- Between neighbours of E nothing turns. -/
theorem steady {a b : List Sp} {E : List Int} (hp : E.Pairwise (· < ·)) (hm : ∀ x, x ∈ E ↔ x ∈ start (a ++ b)) {i : Nat} (hi : i + 1 < E.length) {x : Int} (h1 : E[i]?.getD 0 ≤ x) (h2 : x < E[i + 1]?.getD 0) :
    hasP a x = hasP a (E[i]?.getD 0) ∧ hasP b x = hasP b (E[i]?.getD 0) := by
  have e0 : E[i]?.getD 0 = E[i] := by rw [List.getElem?_eq_getElem (by omega)]; rfl
  have e1 : E[i + 1]?.getD 0 = E[i + 1] := by rw [List.getElem?_eq_getElem hi]; rfl
  rw [e0] at h1 ⊢
  rw [e1] at h2
  have none : ∀ z ∈ E, ¬ (E[i] < z ∧ z ≤ x) := by
    intro z hz hh
    obtain ⟨j, hj, rfl⟩ := List.mem_iff_getElem.1 hz
    rw [List.pairwise_iff_getElem] at hp
    by_cases c1 : j ≤ i
    · by_cases c2 : j = i
      · subst c2; omega
      · have := hp j i (by omega) (by omega) (by omega); omega
    · by_cases c2 : j = i + 1
      · subst c2; omega
      · have := hp (i + 1) j (by omega) (by omega) (by omega); omega
  constructor
  · exact hasP_same h1 fun s hs => ⟨none _ ((hm _).2 (mem_start (List.mem_append_left b hs)).1), none _ ((hm _).2 (mem_start (List.mem_append_left b hs)).2)⟩
  · exact hasP_same h1 fun s hs => ⟨none _ ((hm _).2 (mem_start (List.mem_append_right a hs)).1), none _ ((hm _).2 (mem_start (List.mem_append_right a hs)).2)⟩

/-- What Made has so far: the set f below the place p. -/
def Upto (f : Int → Bool) (p : Int) (O : List Sp) : Prop := (unbtw O).Pairwise (· < ·) ∧ (∀ e ∈ unbtw O, 0 ≤ e ∧ e ≤ p) ∧ ∀ x, inE (unbtw O) x = (decide (0 ≤ x ∧ x < p) && f x)
theorem unbtw_append (a b : List Sp) : unbtw (a ++ b) = unbtw a ++ unbtw b := by
  induction a with
  | nil => rfl
  | cons s t ih => simp [unbtw, ih]
theorem upto_skip {f : Int → Bool} {p q : Int} {O : List Sp} (h : Upto f p O) (hp : 0 ≤ p) (hpq : p ≤ q) (hf : ∀ x, p ≤ x → x < q → f x = false) : Upto f q O := by
  obtain ⟨h1, h2, h3⟩ := h
  refine ⟨h1, fun e he => ⟨(h2 e he).1, by have := (h2 e he).2; omega⟩, fun x => ?_⟩
  rw [h3]
  by_cases c1 : p ≤ x
  · by_cases c2 : x < q
    · rw [hf x c1 c2]; simp
    · have d1 : ¬ (0 ≤ x ∧ x < p) := by omega
      have d2 : ¬ (0 ≤ x ∧ x < q) := by omega
      rw [decide_eq_false d1, decide_eq_false d2]
  · by_cases c3 : 0 ≤ x
    · rw [decide_eq_true (show 0 ≤ x ∧ x < p by omega), decide_eq_true (show 0 ≤ x ∧ x < q by omega)]
    · rw [decide_eq_false (show ¬ (0 ≤ x ∧ x < p) by omega), decide_eq_false (show ¬ (0 ≤ x ∧ x < q) by omega)]
theorem upto_new {f : Int → Bool} {p q : Int} {O : List Sp} (h : Upto f p O) (hp : 0 ≤ p) (hpq : p < q) (hf : ∀ x, p ≤ x → x < q → f x = true) (hl : ∀ e ∈ unbtw O, e ≠ p) : Upto f q (O ++ [(p, q - 1)]) := by
  obtain ⟨h1, h2, h3⟩ := h
  have e : unbtw (O ++ [(p, q - 1)]) = unbtw O ++ [p, q] := by rw [unbtw_append]; simp [unbtw]
  have hlt : ∀ e ∈ unbtw O, e < p := fun e he => by have := (h2 e he).2; have := hl e he; omega
  refine ⟨?_, ?_, fun x => ?_⟩
  · rw [e, List.pairwise_append]
    refine ⟨h1, by simp; omega, fun u hu z hz => ?_⟩
    have := hlt u hu
    simp at hz; omega
  · rw [e]; intro u hu
    rcases List.mem_append.1 hu with hu | hu
    · have := h2 u hu; omega
    · simp at hu; omega
  · rw [e, inE_append, h3]
    by_cases c1 : p ≤ x
    · by_cases c2 : q ≤ x
      · rw [decide_eq_false (show ¬ (0 ≤ x ∧ x < p) by omega), decide_eq_false (show ¬ (0 ≤ x ∧ x < q) by omega)]
        simp [inE, c1, c2]
      · rw [decide_eq_false (show ¬ (0 ≤ x ∧ x < p) by omega), decide_eq_true (show 0 ≤ x ∧ x < q by omega), hf x c1 (by omega)]
        simp [inE, c1, c2]
    · have c2 : ¬ q ≤ x := by omega
      have c4 : (decide (0 ≤ x ∧ x < p)) = decide (0 ≤ x ∧ x < q) := by
        rw [Bool.eq_iff_iff, decide_eq_true_eq, decide_eq_true_eq]; omega
      rw [c4]
      simp [inE, c1, c2]
theorem upto_grow {f : Int → Bool} {p q lo : Int} {O : List Sp} (h : Upto f p (O ++ [(lo, p - 1)])) (hp : 0 ≤ p) (hpq : p < q) (hf : ∀ x, p ≤ x → x < q → f x = true) : Upto f q (O ++ [(lo, q - 1)]) := by
  obtain ⟨h1, h2, h3⟩ := h
  have e1 : unbtw (O ++ [(lo, p - 1)]) = (unbtw O ++ [lo]) ++ [p] := by rw [unbtw_append]; simp [unbtw]
  have e2 : unbtw (O ++ [(lo, q - 1)]) = (unbtw O ++ [lo]) ++ [q] := by rw [unbtw_append]; simp [unbtw]
  rw [e1] at h1 h2 h3
  rw [List.pairwise_append] at h1
  refine ⟨?_, ?_, fun x => ?_⟩
  · rw [e2, List.pairwise_append]
    refine ⟨h1.1, by simp, fun u hu z hz => ?_⟩
    have := h1.2.2 u hu p (by simp)
    simp at hz; omega
  · rw [e2]; intro u hu
    rcases List.mem_append.1 hu with hu' | hu'
    · have := h2 u (List.mem_append_left _ hu'); omega
    · simp at hu'; omega
  · have h := h3 x
    rw [e2, inE_append]
    rw [inE_append] at h
    by_cases c1 : p ≤ x
    · have hG : inE (unbtw O ++ [lo]) x = true := by
        rw [decide_eq_false (show ¬ (0 ≤ x ∧ x < p) by omega)] at h
        simpa [inE, c1] using h
      by_cases c2 : q ≤ x
      · rw [hG, decide_eq_false (show ¬ (0 ≤ x ∧ x < q) by omega)]
        simp [inE, c2]
      · rw [hG, decide_eq_true (show 0 ≤ x ∧ x < q by omega), hf x c1 (by omega)]
        simp [inE, c2]
    · have c2 : ¬ q ≤ x := by omega
      have c4 : (decide (0 ≤ x ∧ x < q)) = decide (0 ≤ x ∧ x < p) := by
        rw [Bool.eq_iff_iff, decide_eq_true_eq, decide_eq_true_eq]; omega
      rw [c4, ← h]
      simp [inE, c1, c2]
theorem upto_nf {f : Int → Bool} {O : List Sp} (h : Upto f 1114112 O) : Nf (fun x => decide (0 ≤ x ∧ x ≤ 1114111) && f x) O := by
  obtain ⟨h1, h2⟩ := btw_unbtw O
  refine ⟨unbtw O, O.length, ⟨h.1, fun x => ?_⟩, h2, h1.symm⟩
  rw [h.2.2]
  congr 1
  rw [Bool.eq_iff_iff, decide_eq_true_eq, decide_eq_true_eq]; omega
end Go.Proofs.YtlgnnljleooenaaDoor
