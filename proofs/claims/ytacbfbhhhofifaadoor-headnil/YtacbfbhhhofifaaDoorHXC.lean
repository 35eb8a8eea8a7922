import Derived.Test.YtacbfbhhhofifaaDoorHXA
/- Plain: what a head's reader takes. (Stage 19.) -/
namespace Go.Proofs.YtacbfbhhhofifaaDoor.Hd
set_option linter.unusedVariables false

/-- Behind its end, or in error. -/
def overS (l : List Int) : Prop := (go s0 l).d = true ∨ (go s0 l).e ≠ 0
instance (l : List Int) : Decidable (overS l) := by unfold overS; infer_instance
/-- How many are taken. -/
theorem step_n (s : St) (c : Int) : (step s c).n = s.n + 1 := by
  unfold step
  split
  · rfl
  · split
    · split <;> rfl
    · split
      · rfl
      · unfold fin
        split
        · rfl
        · split
          · split
            · rfl
            · split <;> rfl
          · split
            · rfl
            · split
              · rfl
              · split <;> rfl
theorem go_n : ∀ (l : List Int) (s : St), (go s l).n ≤ s.n + l.length ∧ (((go s l).d = false ∧ (go s l).e = 0) → (go s l).n = s.n + l.length)
  | [], s => ⟨Nat.le_refl _, fun _ => rfl⟩
  | c :: l, s => by
    rw [go, List.length_cons]
    by_cases h : s.d = true ∨ s.e ≠ 0
    · rw [if_pos h]
      refine ⟨by omega, fun ⟨h1, h2⟩ => ?_⟩
      rcases h with h | h
      · rw [h1] at h; cases h
      · exact absurd h2 h
    · rw [if_neg h]
      obtain ⟨i1, i2⟩ := go_n l (step s c)
      rw [step_n] at i1 i2
      exact ⟨by omega, fun hh => by rw [i2 hh]; omega⟩
theorem go0_n (l : List Int) : (go s0 l).n ≤ l.length ∧ (¬ overS l → (go s0 l).n = l.length) := by
  obtain ⟨h1, h2⟩ := go_n l s0
  have e : s0.n = 0 := rfl
  rw [e, Nat.zero_add] at h1 h2
  refine ⟨h1, fun h => h2 ⟨?_, ?_⟩⟩
  · cases hd : (go s0 l).d with
    | false => rfl
    | true => exact absurd (.inl hd) h
  · exact Classical.not_not.1 fun he => h (.inr he)
/-- What stands behind what was taken makes no difference. -/
theorem go_took : ∀ (l : List Int) (s : St), go s (l.take ((go s l).n - s.n)) = go s l
  | [], s => by simp [go]
  | c :: l, s => by
    by_cases h : s.d = true ∨ s.e ≠ 0
    · rw [go_over h, go_over h]
    · have e : go s (c :: l) = go (step s c) l := by rw [go, if_neg h]
      have hn := step_n s c
      have hm : s.n + 1 ≤ (go (step s c) l).n := by
        have hmono : ∀ (l : List Int) (s : St), s.n ≤ (go s l).n := by
          intro l
          induction l with
          | nil => intro s; exact Nat.le_refl _
          | cons c l ih =>
            intro s
            rw [go]
            split
            · exact Nat.le_refl _
            · have := ih (step s c)
              rw [step_n] at this
              omega
        have := hmono l (step s c)
        omega
      rw [e]
      obtain ⟨k, hk⟩ : ∃ k, (go (step s c) l).n - s.n = k + 1 := ⟨(go (step s c) l).n - s.n - 1, by omega⟩
      rw [hk, List.take_succ_cons, go, if_neg h]
      have := go_took l (step s c)
      rw [hn] at this
      rw [show k = (go (step s c) l).n - (s.n + 1) by omega]
      exact this
theorem step_de {s : St} {c : Int} (hd : s.d = false) (he : s.e = 0) : (step s c).d = false ∨ (step s c).e = 0 := by
  unfold step
  split
  · exact .inl hd
  · split
    · split
      · exact .inl hd
      · exact .inl hd
    · split
      · exact .inl hd
      · unfold fin
        split
        · exact .inl hd
        · split
          · split
            · exact .inl hd
            · split
              · exact .inl hd
              · exact .inl hd
          · split
            · exact .inr he
            · split
              · exact .inl hd
              · split
                · exact .inl hd
                · exact .inl hd
theorem go_de : ∀ (l : List Int) (s : St), (s.d = false ∨ s.e = 0) → ((go s l).d = false ∨ (go s l).e = 0)
  | [], s, h => h
  | c :: l, s, h => by
    rw [go]
    split
    · exact h
    · rename_i hn
      have h1 : s.d = false := by cases hd : s.d with
        | false => rfl
        | true => exact absurd (.inl hd) hn
      have h2 : s.e = 0 := Classical.not_not.1 fun he => hn (.inr he)
      exact go_de l (step s c) (step_de h1 h2)
theorem frst_e (l : List Int) : (frst l).2 ≤ 195 := by
  unfold frst
  simp only
  split
  · show 190 ≤ 195; decide
  · split
    · split
      · exact Nat.zero_le _
      · show 192 ≤ 195; decide
    · show 190 ≤ 195; decide
theorem go_small : ∀ (l : List Int) (s : St), s.n ≤ 16385 → s.e ≤ 195 → (s.n ≤ 16384 ∨ s.d = true ∨ s.e ≠ 0) → (go s l).n ≤ 16385 ∧ (go s l).e ≤ 195
  | [], s, h, he, _ => ⟨h, he⟩
  | c :: l, s, h, he, hh => by
    rw [go]
    split
    · exact ⟨h, he⟩
    · rename_i hn
      have h3 : s.n ≤ 16384 := by
        rcases hh with hh | hh
        · exact hh
        · exact absurd hh hn
      refine go_small l (step s c) (by rw [step_n]; omega) ?_ ?_
      · unfold step
        split
        · exact Nat.le_refl _
        · split
          · split
            · simp only; split <;> decide
            · exact he
          · split
            · show 191 ≤ 195; decide
            · unfold fin
              split
              · exact he
              · split
                · split
                  · show 194 ≤ 195; decide
                  · split
                    · show (frst _).2 ≤ 195
                      exact frst_e _
                    · exact he
                · split
                  · exact he
                  · split
                    · show 195 ≤ 195; decide
                    · split
                      · show 193 ≤ 195; decide
                      · exact he
      · rw [step_n]
        by_cases hm : 16384 < s.n + 1
        · right; right
          unfold step; rw [if_pos hm]; simp
        · left; omega
end Go.Proofs.YtacbfbhhhofifaaDoor.Hd
