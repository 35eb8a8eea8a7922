/- Plain: bounds on what is adapted and on how long a number is; what is left from n on. -/
import Derived.Test.YtpjbiapgkbooaaaBA
namespace Go.Proofs.Ytpjbiapgkbooaaa
open Go.RowKit U
set_option linter.unusedVariables false

theorem loopA_le (A K : Nat) : loopA A K ≤ K + A + 36 := by
  induction A using Nat.strongRecOn generalizing K with
  | ind A ih =>
    by_cases h : 455 < A
    · rw [loopA_more A K h]
      have := ih (A / 35) (by omega) (K + 36)
      omega
    · rw [loopA_less A K h]
      have : 36 * A / (A + 38) ≤ 36 := by
        apply Nat.le_of_lt_succ
        rw [Nat.div_lt_iff_lt_mul (by omega)]
        omega
      omega
theorem adapt_le (d p : Nat) (f : Bool) (hd : d ≤ 100000000000) : adapt d p f ≤ 2 * d + 36 := by
  unfold adapt
  have h1 : (if f = true then d / 700 else d / 2) ≤ d := by split <;> omega
  have h2 := Nat.div_le_self (if f = true then d / 700 else d / 2) p
  have := loopA_le ((if f = true then d / 700 else d / 2) + (if f = true then d / 700 else d / 2) / p) 0
  omega
theorem wn_le (b k q : Nat) : (wn b k q).length ≤ q + 1 := by
  induction q using Nat.strongRecOn generalizing k with
  | ind q ih =>
    rw [wn_at]
    split
    · simp
    · rename_i h
      have h1 := thr_lo k b
      have h2 := Nat.div_le_self (q - thr k b) (36 - thr k b)
      have := ih ((q - thr k b) / (36 - thr k b)) (by omega) (k + 36)
      rw [List.length_cons]; omega
def ups (l : List Int) (n : Int) : Nat := (l.filter fun x => decide (n ≤ x)).length
theorem ups_less (l : List Int) (n m : Int) (h : IsLeast l n m) : ups l (m + 1) < ups l n := by
  obtain ⟨h1, h2, _⟩ := h
  unfold ups
  have sub : (l.filter fun x => decide (m + 1 ≤ x)) = (l.filter fun x => decide (n ≤ x)).filter fun x => decide (m + 1 ≤ x) := by
    rw [List.filter_filter]
    apply List.filter_congr
    intro x _
    by_cases hx : m + 1 ≤ x
    · simp [hx]; omega
    · simp [hx]
  rw [sub]
  have hle := List.length_filter_le (fun x => decide (m + 1 ≤ x)) (l.filter fun x => decide (n ≤ x))
  rcases Nat.lt_or_ge (List.filter (fun x => decide (m + 1 ≤ x)) (l.filter fun x => decide (n ≤ x))).length (l.filter fun x => decide (n ≤ x)).length with h | h
  · exact h
  · exfalso
    have e := (List.filter_sublist (p := fun x => decide (m + 1 ≤ x)) (l := l.filter fun x => decide (n ≤ x))).eq_of_length (by omega)
    have hm : m ∈ l.filter fun x => decide (n ≤ x) := List.mem_filter.mpr ⟨h1, by simpa using h2⟩
    rw [← e] at hm
    have := (List.mem_filter.mp hm).2
    simp at this
    omega
theorem hd_len (p : List Int) : (hd p).length ≤ p.length + 1 := by unfold hd; split <;> simp
theorem hd_bytes (l : List Int) (h0 : ∀ x ∈ l, 0 ≤ x) : ∀ c ∈ hd (plain l), 0 ≤ c ∧ c < 128 := by
  intro c hc
  unfold hd at hc
  split at hc
  · cases hc
  · rcases List.mem_append.mp hc with hc | hc
    · exact ⟨h0 c (List.mem_filter.mp hc).1, plain_lt l c hc⟩
    · simp at hc; omega
/-- What is written is ASCII. -/
theorem Enc.ascii {l T : List Int} (h : Enc l T) (h0 : ∀ x ∈ l, 0 ≤ x) : ∀ c ∈ T, 0 ≤ c ∧ c < 128 := by
  obtain ⟨ds, rfl, _⟩ := h
  intro c hc
  rcases List.mem_append.mp hc with hc | hc
  · exact hd_bytes l h0 c hc
  · have := tx_signs _ ds c hc; omega
end Go.Proofs.Ytpjbiapgkbooaaa
