/- Plain facts: how many code points a set has. -/
import Derived.Test.YtlgnnljleooenaaDoorQ
namespace Go.Proofs.YtlgnnljleooenaaDoor
open Go.RowKit
set_option linter.unusedVariables false

/-- How many of the numbers of a row are in f. -/
def cf (f : Int → Bool) (l : List Nat) : Nat := l.countP fun i : Nat => f (i : Int)
def card (f : Int → Bool) : Nat := cf f (List.range 1114112)
theorem cf_or_and (f g : Int → Bool) (l : List Nat) : cf (fun x => f x || g x) l + cf (fun x => f x && g x) l = cf f l + cf g l := by
  induction l with
  | nil => rfl
  | cons i l ih =>
    unfold cf at *
    dsimp only at ih
    simp only [List.countP_cons]
    cases f (i : Int) <;> cases g (i : Int) <;> simp <;> omega
theorem cf_less_and (f g : Int → Bool) (l : List Nat) : cf (fun x => f x && !g x) l + cf (fun x => f x && g x) l = cf f l := by
  induction l with
  | nil => rfl
  | cons i l ih =>
    unfold cf at *
    dsimp only at ih
    simp only [List.countP_cons]
    cases f (i : Int) <;> cases g (i : Int) <;> simp <;> omega
theorem cf_congr {f g : Int → Bool} {l : List Nat} (h : ∀ i ∈ l, f (i : Int) = g (i : Int)) : cf f l = cf g l := by
  unfold cf
  exact List.countP_congr fun i hi => by rw [h i hi]
theorem cf_none {f : Int → Bool} {l : List Nat} (h : ∀ i ∈ l, f (i : Int) = false) : cf f l = 0 := by
  unfold cf
  rw [List.countP_eq_zero]
  intro i hi; rw [h i hi]; simp
theorem cf_all {f : Int → Bool} {l : List Nat} (h : ∀ i ∈ l, f (i : Int) = true) : cf f l = l.length := by
  unfold cf
  rw [List.countP_eq_length]
  exact h
theorem cf_interval (a b : Nat) (hab : a ≤ b) : ∀ n, cf (fun x => decide ((a : Int) ≤ x ∧ x < (b : Int))) (List.range n) = min b n - min a n := by
  intro n
  induction n with
  | zero => simp [cf]
  | succ n ih =>
    unfold cf at *
    rw [List.range_succ, List.countP_append, ih, List.countP_singleton]
    by_cases h1 : a ≤ n ∧ n < b
    · rw [if_pos (by simp; omega)]; omega
    · rw [if_neg (by simp; omega)]; omega
theorem card_interval (a b : Int) (h0 : 0 ≤ a) (hab : a ≤ b) (hb : b ≤ 1114112) : (card (fun x => decide (a ≤ x ∧ x < b)) : Int) = b - a := by
  obtain ⟨A, rfl⟩ : ∃ A : Nat, a = (A : Int) := ⟨a.toNat, by omega⟩
  obtain ⟨B, rfl⟩ : ∃ B : Nat, b = (B : Int) := ⟨b.toNat, by omega⟩
  unfold card
  rw [cf_interval A B (by omega)]
  omega
theorem card_btw : ∀ (n : Nat) (E : List Int), E.length = 2 * n → E.Pairwise (· < ·) → (∀ e ∈ E, 0 ≤ e ∧ e ≤ 1114112) → (card (inE E) : Int) = cnt (btw E) := by
  intro n
  induction n with
  | zero =>
    intro E h; obtain rfl := List.length_eq_zero_iff.1 h
    intro _ _
    have : card (inE []) = 0 := cf_none fun i _ => rfl
    rw [this]; rfl
  | succ n ih =>
    intro E h hp hb
    rcases E with _ | ⟨a, _ | ⟨b, t⟩⟩
    · simp at h
    · simp at h; omega
    · rw [List.pairwise_cons, List.pairwise_cons] at hp
      have ht := ih t (by simp at h; omega) hp.2.2 (fun e he => hb e (by simp [he]))
      have hab := hp.1 b (by simp)
      have ha := hb a (by simp)
      have hb' := hb b (by simp)
      have hor : ∀ x, inE (a :: b :: t) x = (decide (a ≤ x ∧ x < b) || inE t x) := fun x => by
        rw [inE, inE]
        by_cases h1 : b ≤ x
        · have h2 : a ≤ x := by omega
          have h3 : ¬ x < b := by omega
          simp [h1, h2, h3]
        · have h4 : inE t x = false := inE_low t x (fun y hy => by have := hp.2.1 y hy; omega)
          by_cases h2 : a ≤ x
          · have h3 : x < b := by omega
            simp [h1, h2, h3, h4]
          · simp [h1, h2, h4]
      have hdis : ∀ x, (decide (a ≤ x ∧ x < b) && inE t x) = false := fun x => by
        by_cases h1 : b ≤ x
        · have h3 : ¬ x < b := by omega
          simp [h3]
        · rw [inE_low t x (fun y hy => by have := hp.2.1 y hy; omega)]; simp
      have h1 := cf_or_and (fun x => decide (a ≤ x ∧ x < b)) (inE t) (List.range 1114112)
      rw [cf_none (f := fun x => decide (a ≤ x ∧ x < b) && inE t x) (fun i _ => hdis _)] at h1
      have h2 : card (inE (a :: b :: t)) = cf (fun x => decide (a ≤ x ∧ x < b) || inE t x) (List.range 1114112) := cf_congr fun i _ => hor _
      have h3 := card_interval a b ha.1 (by omega) hb'.2
      unfold card at h3 ht h2 ⊢
      show _ = (b - 1 - a + 1) + cnt (btw t)
      omega
theorem Nf.card {f : Int → Bool} {l : List Sp} (h : Nf f l) (hf : Fits f) : (card f : Int) = cnt l := by
  obtain ⟨E, n, h1, h2, rfl⟩ := h
  rw [← card_btw n E h2 h1.1 (h1.bounds hf)]
  have : f = inE E := funext fun x => (h1.2 x).symm
  rw [this]
theorem CountR.of_nf {a m : List Sp} {f : Int → Bool} {n : Int} (h : CountR m n) (hm : Nf f m) (hf : Fits f) (hl : m.length ≤ 1024) : n = (Go.Proofs.YtlgnnljleooenaaDoor.card f : Int) := by
  have hc : chk m = 0 := chk_ok m (by omega) (hm.ok hf)
  rcases h with ⟨h1, _⟩ | ⟨_, m', h2, rfl⟩
  · exact absurd hc h1
  · have := hm.unique (h2.congr hm.has)
    rw [← this, hm.card hf]
theorem CountR.of_ok {a : List Sp} {n : Int} (h : CountR a n) (hc : chk a = 0) : n = (Go.Proofs.YtlgnnljleooenaaDoor.card (hasP a) : Int) := by
  rcases h with ⟨h1, _⟩ | ⟨_, m', h2, rfl⟩
  · exact absurd hc h1
  · rw [h2.card (fits_has (chk_zero hc).2)]
/-- What a call answers on spans that may be, where there are not too many. -/
theorem MadeR.ok {c : Bool → Bool → Bool} {a b m : List Sp} {e : Int} (h : MadeR c a b m e) (ha : chk a = 0) (hb : chk b = 0) (hl : a.length + b.length ≤ 1024) : e = 0 ∧ Nf (fun x => c (hasP a x) (hasP b x)) m ∧ m.length ≤ a.length + b.length := by
  rcases h with ⟨h1, _⟩ | ⟨_, h2, _⟩ | ⟨_, _, m', hm, hml, h3⟩
  · exact absurd ha h1
  · exact absurd hb h2
  · rcases h3 with ⟨p, _⟩ | ⟨_, rfl, rfl⟩
    · omega
    · exact ⟨rfl, hm, hml⟩
theorem one_has (r x : Int) : hasP [(r, r)] x = decide (x = r) := by
  simp only [hasP, List.any_cons, List.any_nil, Bool.or_false]
  rw [Bool.eq_iff_iff, decide_eq_true_eq, decide_eq_true_eq]; omega
end Go.Proofs.YtlgnnljleooenaaDoor
