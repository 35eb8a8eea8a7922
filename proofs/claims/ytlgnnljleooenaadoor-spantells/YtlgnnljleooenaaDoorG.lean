/- Plain facts: what sweep answers are the edges of the set of what counts. -/
import Derived.Test.YtlgnnljleooenaaDoorC
namespace Go.Proofs.YtlgnnljleooenaaDoor
open Go.RowKit
set_option linter.unusedVariables false

theorem head_le {x : Int} {a : List Int} (h : (x :: a).Pairwise (· < ·)) : ∀ z ∈ x :: a, x ≤ z := by
  rw [List.pairwise_cons] at h
  intro z hz
  rcases List.mem_cons.1 hz with rfl | hz
  · exact Int.le_refl _
  · have := h.1 z hz; omega
theorem near_le (a b : List Int) (ha : a.Pairwise (· < ·)) (hb : b.Pairwise (· < ·)) : (∀ z ∈ a, near a b ≤ z) ∧ ∀ z ∈ b, near a b ≤ z := by
  rcases a with _ | ⟨x, a⟩
  · refine ⟨(fun z hz => by cases hz), fun z hz => ?_⟩
    rcases b with _ | ⟨y, b⟩
    · cases hz
    · exact head_le hb z hz
  · rcases b with _ | ⟨y, b⟩
    · exact ⟨fun z hz => head_le ha z hz, (fun z hz => by cases hz)⟩
    · by_cases hyx : y < x
      · have hn : near (x :: a) (y :: b) = y := by show (if y < x then y else x) = y; rw [if_pos hyx]
        rw [hn]
        exact ⟨fun z hz => by have := head_le ha z hz; omega, fun z hz => head_le hb z hz⟩
      · have hn : near (x :: a) (y :: b) = x := by show (if y < x then y else x) = x; rw [if_neg hyx]
        rw [hn]
        exact ⟨fun z hz => head_le ha z hz, fun z hz => by have := head_le hb z hz; omega⟩
theorem rest_facts (a : List Int) (e : Int) (ha : a.Pairwise (· < ·)) (hle : ∀ z ∈ a, e ≤ z) :
    (rest a e).Pairwise (· < ·) ∧ (∀ z ∈ rest a e, e < z ∧ z ∈ a) ∧ ∀ x, e ≤ x → inE a x = xor (passed a e) (inE (rest a e) x) := by
  cases hp : passed a e with
  | true =>
    rcases a with _ | ⟨y, a⟩
    · simp [passed] at hp
    · have hy : y = e := by simpa [passed] using hp
      subst hy
      rw [(pass_yes (y :: a) y true hp).1]
      rw [List.pairwise_cons] at ha
      refine ⟨ha.2, fun z hz => ⟨ha.1 z hz, List.mem_cons_of_mem _ hz⟩, fun x hx => ?_⟩
      simp [inE, hx]
  | false =>
    rw [(pass_no a e true hp).1]
    refine ⟨ha, fun z hz => ⟨?_, hz⟩, fun x hx => by simp⟩
    rcases a with _ | ⟨y, a⟩
    · cases hz
    · have hy : ¬ y = e := by simpa [passed] using hp
      have h1 := hle y (by simp)
      have h2 := head_le ha z hz
      omega
theorem swp_inv (c : Bool → Bool → Bool) : ∀ (f : Nat) (a b : List Int) (ia ib ii : Bool), a.length + b.length ≤ f → a.Pairwise (· < ·) → b.Pairwise (· < ·) → ii = c ia ib →
    (swp c f a b ia ib ii).Pairwise (· < ·) ∧ (∀ z ∈ swp c f a b ia ib ii, z ∈ a ∨ z ∈ b) ∧ (swp c f a b ia ib ii).length ≤ a.length + b.length ∧ ∀ x, xor ii (inE (swp c f a b ia ib ii) x) = c (xor ia (inE a x)) (xor ib (inE b x)) := by
  intro f
  induction f with
  | zero =>
    intro a b ia ib ii hf ha hb hi
    obtain rfl : a = [] := List.length_eq_zero_iff.1 (by omega)
    obtain rfl : b = [] := List.length_eq_zero_iff.1 (by omega)
    refine ⟨by simp [swp], by simp [swp], by simp [swp], fun x => by simp [swp, inE, hi]⟩
  | succ f ih =>
    intro a b ia ib ii hf ha hb hi
    by_cases hz : a.length = 0 ∧ b.length = 0
    · rw [swp_done c (f + 1) a b ia ib ii hz]
      obtain rfl : a = [] := List.length_eq_zero_iff.1 hz.1
      obtain rfl : b = [] := List.length_eq_zero_iff.1 hz.2
      refine ⟨by simp, by simp, by simp, fun x => by simp [inE, hi]⟩
    · obtain ⟨e, he⟩ : ∃ e, e = near a b := ⟨_, rfl⟩
      have hsh := rest_shrinks a b (by omega)
      obtain ⟨hna, hnb⟩ := near_le a b ha hb
      rw [← he] at hsh hna hnb
      obtain ⟨a1, a2, a3⟩ := rest_facts a e ha hna
      obtain ⟨b1, b2, b3⟩ := rest_facts b e hb hnb
      have key : ∀ x, e ≤ x → c (xor (flip a e ia) (inE (rest a e) x)) (xor (flip b e ib) (inE (rest b e) x)) = c (xor ia (inE a x)) (xor ib (inE b x)) := fun x hx => by
        rw [a3 x hx, b3 x hx]
        unfold flip
        cases passed a e <;> cases passed b e <;> cases ia <;> cases ib <;> simp
      have low : ∀ x, ¬ e ≤ x → inE a x = false ∧ inE b x = false := fun x hx =>
        ⟨inE_low a x (fun z hz => by have := hna z hz; omega), inE_low b x (fun z hz => by have := hnb z hz; omega)⟩
      by_cases hc : c (flip a e ia) (flip b e ib) = ii
      · rw [swp_same c f a b ia ib ii hz e he hc]
        obtain ⟨r1, r2, r3, r4⟩ := ih (rest a e) (rest b e) (flip a e ia) (flip b e ib) ii (by omega) a1 b1 hc.symm
        refine ⟨r1, fun z hz => ?_, by omega, fun x => ?_⟩
        · rcases r2 z hz with h | h
          · exact .inl (a2 z h).2
          · exact .inr (b2 z h).2
        · by_cases hx : e ≤ x
          · rw [r4 x]; exact key x hx
          · rw [(low x hx).1, (low x hx).2, inE_low _ x (fun z hz => by
              rcases r2 z hz with h | h
              · have := (a2 z h).1; omega
              · have := (b2 z h).1; omega)]
            simp [hi]
      · rw [swp_turn c f a b ia ib ii hz e he hc]
        have hc' : (!ii) = c (flip a e ia) (flip b e ib) := by
          cases h : c (flip a e ia) (flip b e ib) <;> cases h2 : ii <;> simp_all
        obtain ⟨r1, r2, r3, r4⟩ := ih (rest a e) (rest b e) (flip a e ia) (flip b e ib) (!ii) (by omega) a1 b1 hc'
        have hgt : ∀ z ∈ swp c f (rest a e) (rest b e) (flip a e ia) (flip b e ib) (!ii), e < z := fun z hz => by
          rcases r2 z hz with h | h
          · exact (a2 z h).1
          · exact (b2 z h).1
        refine ⟨List.pairwise_cons.2 ⟨hgt, r1⟩, fun z hz => ?_, by simp only [List.length_cons]; omega, fun x => ?_⟩
        · rcases List.mem_cons.1 hz with rfl | hz
          · rcases a with _ | ⟨u, a⟩
            · rcases b with _ | ⟨y, b⟩
              · exact absurd ⟨rfl, rfl⟩ ‹¬ (([] : List Int).length = 0 ∧ ([] : List Int).length = 0)›
              · right; rw [he]; simp [near]
            · rcases b with _ | ⟨y, b⟩
              · left; rw [he]; simp [near]
              · rw [he]
                show (if y < u then y else u) ∈ _ ∨ (if y < u then y else u) ∈ _
                split
                · right; simp
                · left; simp
          · rcases r2 z hz with h | h
            · exact .inl (a2 z h).2
            · exact .inr (b2 z h).2
        · by_cases hx : e ≤ x
          · rw [← key x hx, ← r4 x, inE]
            simp only [hx, decide_true, Bool.true_xor]
            cases ii <;> cases inE (swp c f (rest a e) (rest b e) (flip a e ia) (flip b e ib) _) x <;> rfl
          · rw [(low x hx).1, (low x hx).2, inE, inE_low _ x (fun z hz => by have := hgt z hz; omega)]
            simp [hi, hx]
theorem swp_edges (c : Bool → Bool → Bool) (h0 : c false false = false) (A B : List Int) (hA : A.Pairwise (· < ·)) (hB : B.Pairwise (· < ·)) :
    IsEdges (swp c (A.length + B.length) A B false false false) (fun x => c (inE A x) (inE B x)) ∧ (swp c (A.length + B.length) A B false false false).length ≤ A.length + B.length := by
  obtain ⟨h1, _, h3, h4⟩ := swp_inv c (A.length + B.length) A B false false false (Nat.le_refl _) hA hB h0.symm
  exact ⟨⟨h1, fun x => by simpa using h4 x⟩, h3⟩

/-- What a call that puts two sets together answers: spans and an error. -/
def MadeR (c : Bool → Bool → Bool) (a b m : List Sp) (e : Int) : Prop :=
  (chk a ≠ 0 ∧ m = [] ∧ e = chk a) ∨ (chk a = 0 ∧ chk b ≠ 0 ∧ m = [] ∧ e = chk b) ∨
  (chk a = 0 ∧ chk b = 0 ∧ ∃ m', Nf (fun x => c (hasP a x) (hasP b x)) m' ∧ m'.length ≤ a.length + b.length ∧ ((1024 < m'.length ∧ m = [] ∧ e = 4) ∨ (m'.length ≤ 1024 ∧ m = m' ∧ e = 0)))
theorem MadeR.unique {c : Bool → Bool → Bool} {a b m m' : List Sp} {e e' : Int} (h : MadeR c a b m e) (g : MadeR c a b m' e') : m = m' ∧ e = e' := by
  rcases h with ⟨h1, rfl, rfl⟩ | ⟨h1, h2, rfl, rfl⟩ | ⟨h1, h2, x, hx, _, h3⟩
  · rcases g with ⟨g1, rfl, rfl⟩ | ⟨g1, _⟩ | ⟨g1, _⟩
    · exact ⟨rfl, rfl⟩
    · exact absurd g1 h1
    · exact absurd g1 h1
  · rcases g with ⟨g1, _⟩ | ⟨g1, g2, rfl, rfl⟩ | ⟨g1, g2, _⟩
    · exact absurd h1 g1
    · exact ⟨rfl, rfl⟩
    · exact absurd g2 h2
  · rcases g with ⟨g1, _⟩ | ⟨g1, g2, _⟩ | ⟨g1, g2, y, hy, _, g3⟩
    · exact absurd h1 g1
    · exact absurd h2 g2
    · obtain rfl := hx.unique hy
      rcases h3 with ⟨p, rfl, rfl⟩ | ⟨p, rfl, rfl⟩ <;> rcases g3 with ⟨q, rfl, rfl⟩ | ⟨q, rfl, rfl⟩
      · exact ⟨rfl, rfl⟩
      · omega
      · omega
      · exact ⟨rfl, rfl⟩
theorem fits_two {c : Bool → Bool → Bool} (h0 : c false false = false) {a b : List Sp} (ha : a.all ok1 = true) (hb : b.all ok1 = true) : Fits (fun x => c (hasP a x) (hasP b x)) := by
  intro x hx
  cases h1 : hasP a x with
  | true => exact fits_has ha x h1
  | false =>
    cases h2 : hasP b x with
    | true => exact fits_has hb x h2
    | false => dsimp only at hx; rw [h1, h2, h0] at hx; cases hx
end Go.Proofs.YtlgnnljleooenaaDoor
