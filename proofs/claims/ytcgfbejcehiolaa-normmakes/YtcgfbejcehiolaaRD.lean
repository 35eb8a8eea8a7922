/- Putting together, as the document's own definition goes about it: what holds of a round. -/
import Derived.Test.YtcgfbejcehiolaaRC
namespace Go.Proofs.Ytcgfbejcehiolaa
open Go.RowKit
set_option linter.unusedVariables false

theorem tst_zero (l : List Pt) : ∀ A s B, tst l = (some (A, s), B) → s.2 = 0 := by
  induction l using snoc_ind with
  | h0 => intro A s B h; cases h
  | h1 l c ih =>
    intro A s B h
    rw [tst_snoc] at h
    rcases tstep_cases (tst l) c with e | ⟨A', s', B', q, e1, _, _, e2⟩
    · rw [e] at h
      unfold app at h
      split at h
      · rename_i h0; cases h; exact h0
      · have h1 : (tst l).1 = some (A, s) := congrArg Prod.fst h
        exact ih A s (tst l).2 (by rw [← h1])
    · rw [e2] at h
      have h1 := ih A' s' B' e1
      cases h; exact h1

def zof (t : TS) (R : List Pt) : List Int := (tout t ++ R).map (·.1)
theorem zof_get {t : TS} {R : List Pt} {j : Nat} (h : j < (tout t).length) : (zof t R)[j]?.getD 0 = ((tout t)[j]).1 := by
  unfold zof
  rw [List.getElem?_map, List.getElem?_append_left h, List.getElem?_eq_getElem h]
  rfl
theorem zof_here (t : TS) (c : Pt) (R : List Pt) : (zof t (c :: R))[(tout t).length]?.getD 0 = c.1 := by
  unfold zof
  rw [List.getElem?_map, List.getElem?_append_right (Nat.le_refl _), Nat.sub_self]
  rfl
structure Round (Z : List Int) (i : Nat) (tl : Int) (cc : Int) (rc : Bool) : Prop where
  lo : -1 ≤ tl
  hi : tl < i
  zero : tl = -1 ∨ (0 ≤ tl ∧ cl (Z[tl.toNat]?.getD 0) = 0)
  marks : ∀ j : Nat, tl < j → j < i → cl (Z[j]?.getD 0) ≠ 0
  none : tl = -1 → rc = false
  stop : ∀ j : Nat, tl < j → j < i → ¬ cl (Z[j]?.getD 0) < cc → rc = false
  go : 0 ≤ tl → (∀ j : Nat, tl < j → j < i → cl (Z[j]?.getD 0) < cc) → rc = true
theorem round_of {l : List Pt} (hp : Pure l) (hi : inO l) {k : Nat} {t : TS} (ht : t = tst (l.take k)) (c : Pt) (R : List Pt) : Round (zof t (c :: R)) (tout t).length (tlast t) c.2 (reach t c) := by
  have htk : Pure (l.take k) := fun x hx => hp x (List.mem_of_mem_take hx)
  have hik : inO (l.take k) := by
    have := hi
    rw [← List.take_append_drop k l] at this
    exact (inO_append.1 this).1
  obtain ⟨c', hk, _⟩ := keeps_tst _ htk hik
  have hz := tst_zero (l.take k)
  rw [← ht] at hk hz
  clear ht
  have hcl : ∀ j (h : j < (tout t).length), cl ((zof t (c :: R))[j]?.getD 0) = ((tout t)[j]).2 := fun j h => by
    rw [zof_get h]
    have := hk.pure _ (List.getElem_mem h)
    exact (congrArg Prod.snd this).symm
  obtain ⟨_ | ⟨A, s⟩, B⟩ := t
  · refine ⟨by simp [tlast], by simp [tlast]; omega, .inl rfl, fun j h1 h2 => ?_, fun _ => rfl, fun _ _ _ _ => rfl, fun h => by simp [tlast] at h⟩
    rw [hcl j h2]
    exact hk.marks _ (List.getElem_mem (l := B) h2)
  · have hT : tout (some (A, s), B) = A ++ s :: B := rfl
    have htl : tlast (some (A, s), B) = (A.length : Nat) := rfl
    have hlen : (tout (some (A, s), B)).length = A.length + 1 + B.length := by rw [hT]; simp; omega
    have hB : ∀ j (h2 : j < (tout (some (A, s), B)).length), A.length < j → (tout (some (A, s), B))[j] ∈ B := fun j h2 h1 => by
      have e : (tout (some (A, s), B))[j]? = B[j - A.length - 1]? := by
        rw [hT, List.getElem?_append_right (by omega), show j - A.length = (j - A.length - 1) + 1 by omega, List.getElem?_cons_succ]
        rfl
      rw [List.getElem?_eq_getElem h2, List.getElem?_eq_getElem (by omega)] at e
      rw [Option.some.inj e]
      exact List.getElem_mem _
    have hrc : reach (some (A, s), B) c = rch B c := rfl
    refine ⟨by rw [htl]; omega, by rw [htl, hlen]; omega, .inr ⟨by rw [htl]; omega, ?_⟩, fun j h1 h2 => ?_, fun h => by rw [htl] at h; omega, fun j h1 h2 h3 => ?_, fun _ h => ?_⟩
    · rw [htl, Int.toNat_natCast, hcl _ (by rw [hlen]; omega)]
      have : (tout (some (A, s), B))[A.length]'(by rw [hlen]; omega) = s := by simp [hT]
      rw [this]
      exact hz A s B rfl
    · rw [htl] at h1
      rw [hcl j h2]
      exact hk.marks _ (hB j h2 (by omega))
    · rw [htl] at h1
      rw [hcl j h2] at h3
      rw [hrc]
      cases h4 : rch B c with
      | false => rfl
      | true => exact absurd (rch_all hk.srt h4 _ (hB j h2 (by omega))) h3
    · rw [hrc]
      unfold rch
      cases hl : B.getLast? with
      | none => rfl
      | some z =>
        have hne : B ≠ [] := fun e => by rw [e] at hl; cases hl
        have hz2 : B = B.dropLast ++ [z] := by
          have h1 := List.dropLast_concat_getLast hne
          rw [List.getLast?_eq_some_getLast hne] at hl
          cases hl; exact h1.symm
        have hBl : 0 < B.length := List.length_pos_iff.2 hne
        have hj := h (A.length + B.length) (by rw [htl]; omega) (by rw [hlen]; omega)
        rw [hcl _ (by rw [hlen]; omega)] at hj
        have e : (tout (some (A, s), B))[A.length + B.length]'(by rw [hlen]; omega) = z := by
          have e1 : (tout (some (A, s), B))[A.length + B.length]? = some z := by
            rw [hT, List.getElem?_append_right (by omega), show A.length + B.length - A.length = (B.length - 1) + 1 by omega, List.getElem?_cons_succ]
            rw [List.getLast?_eq_getElem?] at hl
            exact hl
          rw [List.getElem?_eq_getElem (by rw [hlen]; omega)] at e1
          exact Option.some.inj e1
        rw [e] at hj
        exact decide_eq_true hj
end Go.Proofs.Ytcgfbejcehiolaa
