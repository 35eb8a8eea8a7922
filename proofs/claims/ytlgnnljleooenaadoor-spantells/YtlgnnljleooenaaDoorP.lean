/- Plain facts: sets by their edges. A row of rising places tells a set: what lies behind an odd number of them. -/
import Derived.Test.YtlgnnljleooenaaDoorA
namespace Go.Proofs.YtlgnnljleooenaaDoor
open Go.RowKit
set_option linter.unusedVariables false

/-- Is x behind an odd number of the edges? -/
def inE : List Int → Int → Bool
  | [], _ => false
  | e :: t, x => xor (decide (e ≤ x)) (inE t x)
/-- The edges rise, and tell the set f. -/
def IsEdges (E : List Int) (f : Int → Bool) : Prop := E.Pairwise (· < ·) ∧ ∀ x, inE E x = f x
/-- The spans between edges. -/
def btw : List Int → List Sp
  | a :: b :: t => (a, b - 1) :: btw t
  | _ => []

theorem inE_append (a b : List Int) (x : Int) : inE (a ++ b) x = xor (inE a x) (inE b x) := by
  induction a with
  | nil => simp [inE]
  | cons e t ih => simp [inE, ih]
theorem inE_low (E : List Int) (x : Int) (h : ∀ e ∈ E, x < e) : inE E x = false := by
  induction E with
  | nil => rfl
  | cons e t ih =>
    have h1 := h e (by simp)
    rw [inE, ih (fun e' he => h e' (by simp [he]))]
    simp; omega
theorem inE_high (E : List Int) (x : Int) (h : ∀ e ∈ E, e ≤ x) : inE E x = decide (E.length % 2 = 1) := by
  induction E with
  | nil => rfl
  | cons e t ih =>
    have h1 := h e (by simp)
    rw [inE, ih (fun e' he => h e' (by simp [he]))]
    simp only [List.length_cons, h1, decide_true, Bool.true_xor]
    by_cases hp : t.length % 2 = 1
    · have : ¬ (t.length + 1) % 2 = 1 := by omega
      simp [hp, this]
    · have : (t.length + 1) % 2 = 1 := by omega
      simp [hp, this]
theorem edges_unique : ∀ (E F : List Int), E.Pairwise (· < ·) → F.Pairwise (· < ·) → (∀ x, inE E x = inE F x) → E = F := by
  intro E
  induction E with
  | nil =>
    intro F _ hF h
    rcases F with _ | ⟨e, t⟩
    · rfl
    · have := h e
      rw [List.pairwise_cons] at hF
      rw [inE, inE, inE_low t e hF.1] at this
      simp at this
  | cons e t ih =>
    intro F hE hF h
    rcases F with _ | ⟨e', t'⟩
    · have := h e
      rw [List.pairwise_cons] at hE
      rw [inE, inE, inE_low t e hE.1] at this
      simp at this
    · rw [List.pairwise_cons] at hE hF
      have hee : e = e' := by
        rcases Int.lt_trichotomy e e' with hlt | heq | hgt
        · have := h e
          rw [inE, inE, inE_low t e hE.1, inE_low t' e (fun y hy => by have := hF.1 y hy; omega)] at this
          have h2 : ¬ e' ≤ e := by omega
          simp [h2] at this
        · exact heq
        · have := h e'
          rw [inE, inE, inE_low t' e' hF.1, inE_low t e' (fun y hy => by have := hE.1 y hy; omega)] at this
          have h2 : ¬ e ≤ e' := by omega
          simp [h2] at this
      subst hee
      rw [ih t' hE.2 hF.2 (fun x => by have := h x; rw [inE, inE] at this; simpa using this)]
theorem IsEdges.unique {E F : List Int} {f : Int → Bool} (h : IsEdges E f) (g : IsEdges F f) : E = F :=
  edges_unique E F h.1 g.1 fun x => (h.2 x).trans (g.2 x).symm

/-- An edge is where the set begins or ends. -/
theorem edge_turns : ∀ (E : List Int), E.Pairwise (· < ·) → ∀ e ∈ E, inE E e ≠ inE E (e - 1) := by
  intro E
  induction E with
  | nil => intro _ e he; cases he
  | cons a t ih =>
    intro hE e he
    rw [List.pairwise_cons] at hE
    rcases List.mem_cons.1 he with rfl | he
    · rw [inE, inE, inE_low t e hE.1, inE_low t (e - 1) (fun y hy => by have := hE.1 y hy; omega)]
      simp; omega
    · have h1 := hE.1 e he
      have h2 := ih hE.2 e he
      have e1 : a ≤ e := by omega
      have e2 : a ≤ e - 1 := by omega
      rw [inE, inE]
      simpa [e1, e2] using h2
/-- Nothing below 0 and nothing above MaxRune. -/
def Fits (f : Int → Bool) : Prop := ∀ x, f x = true → 0 ≤ x ∧ x ≤ 1114111
theorem IsEdges.bounds {E : List Int} {f : Int → Bool} (h : IsEdges E f) (hf : Fits f) : ∀ e ∈ E, 0 ≤ e ∧ e ≤ 1114112 := by
  intro e he
  have := edge_turns E h.1 e he
  rw [h.2, h.2] at this
  cases h1 : f e with
  | true => have := hf e h1; omega
  | false =>
    cases h2 : f (e - 1) with
    | true => have := hf _ h2; omega
    | false => rw [h1, h2] at this; exact absurd rfl this
theorem IsEdges.even {E : List Int} {f : Int → Bool} (h : IsEdges E f) (hf : Fits f) : E.length % 2 = 0 := by
  have hb := h.bounds hf
  have h1 := inE_high E 1114112 (fun e he => (hb e he).2)
  rw [h.2] at h1
  cases h2 : f 1114112 with
  | true => have := hf _ h2; omega
  | false =>
    rw [h2] at h1
    have := h1.symm
    rw [decide_eq_false_iff_not] at this
    omega

theorem btw_length : ∀ (n : Nat) (E : List Int), E.length = 2 * n → (btw E).length = n := by
  intro n
  induction n with
  | zero => intro E h; obtain rfl := List.length_eq_zero_iff.1 h; rfl
  | succ n ih =>
    intro E h
    rcases E with _ | ⟨a, _ | ⟨b, t⟩⟩
    · simp at h
    · simp at h; omega
    · simp only [btw, List.length_cons]; rw [ih t (by simp at h; omega)]
theorem hasP_btw : ∀ (n : Nat) (E : List Int), E.length = 2 * n → E.Pairwise (· < ·) → ∀ x, hasP (btw E) x = inE E x := by
  intro n
  induction n with
  | zero => intro E h; obtain rfl := List.length_eq_zero_iff.1 h; intro _ x; rfl
  | succ n ih =>
    intro E h hp x
    rcases E with _ | ⟨a, _ | ⟨b, t⟩⟩
    · simp at h
    · simp at h; omega
    · rw [List.pairwise_cons, List.pairwise_cons] at hp
      have ht := ih t (by simp at h; omega) hp.2.2 x
      have hab := hp.1 b (by simp)
      have e : hasP (btw (a :: b :: t)) x = (decide (a ≤ x ∧ x ≤ b - 1) || hasP (btw t) x) := rfl
      rw [e, ht, inE, inE]
      by_cases h1 : b ≤ x
      · have h2 : a ≤ x := by omega
        have h3 : ¬ (a ≤ x ∧ x ≤ b - 1) := by omega
        simp [h1, h2]
        intro h; omega
      · have h4 : inE t x = false := inE_low t x (fun y hy => by have := hp.2.1 y hy; omega)
        by_cases h2 : a ≤ x
        · have h3 : x ≤ b - 1 := by omega
          simp [h1, h2, h3, h4]
        · simp [h1, h2, h4]
theorem ok1_btw : ∀ (n : Nat) (E : List Int), E.length = 2 * n → E.Pairwise (· < ·) → (∀ e ∈ E, 0 ≤ e ∧ e ≤ 1114112) → (btw E).all ok1 = true := by
  intro n
  induction n with
  | zero => intro E h; obtain rfl := List.length_eq_zero_iff.1 h; intro _ _; rfl
  | succ n ih =>
    intro E h hp hb
    rcases E with _ | ⟨a, _ | ⟨b, t⟩⟩
    · simp at h
    · simp at h; omega
    · rw [List.pairwise_cons, List.pairwise_cons] at hp
      have ht := ih t (by simp at h; omega) hp.2.2 (fun e he => hb e (by simp [he]))
      have hab := hp.1 b (by simp)
      have ha := hb a (by simp)
      have hb' := hb b (by simp)
      have e : (btw (a :: b :: t)).all ok1 = (ok1 (a, b - 1) && (btw t).all ok1) := rfl
      rw [e, ht]
      simp only [ok1, Bool.and_true, decide_eq_true_eq]
      omega

/-- The normal form of the set f. -/
def Nf (f : Int → Bool) (l : List Sp) : Prop := ∃ E n, IsEdges E f ∧ E.length = 2 * n ∧ l = btw E
theorem Nf.unique {f : Int → Bool} {l m : List Sp} (h : Nf f l) (g : Nf f m) : l = m := by
  obtain ⟨E, _, h1, _, rfl⟩ := h
  obtain ⟨F, _, h2, _, rfl⟩ := g
  rw [h1.unique h2]
theorem Nf.has {f : Int → Bool} {l : List Sp} (h : Nf f l) (x : Int) : hasP l x = f x := by
  obtain ⟨E, n, h1, h2, rfl⟩ := h
  rw [hasP_btw n E h2 h1.1, h1.2]
theorem Nf.ok {f : Int → Bool} {l : List Sp} (h : Nf f l) (hf : Fits f) : l.all ok1 = true := by
  obtain ⟨E, n, h1, h2, rfl⟩ := h
  exact ok1_btw n E h2 h1.1 (h1.bounds hf)
theorem Nf.congr {f g : Int → Bool} {l : List Sp} (h : Nf f l) (e : ∀ x, f x = g x) : Nf g l := by
  obtain rfl : f = g := funext e
  exact h
theorem fits_has {l : List Sp} (h : l.all ok1 = true) : Fits (hasP l) := by
  intro x hx
  unfold hasP at hx
  obtain ⟨s, hs, hx⟩ := List.any_eq_true.1 hx
  have := ok1_true_of s (List.all_eq_true.1 h s hs)
  rw [decide_eq_true_eq] at hx
  omega
theorem chk_zero {l : List Sp} (h : chk l = 0) : l.length ≤ 1024 ∧ l.all ok1 = true := by
  unfold chk at h
  split at h
  · omega
  · split at h
    · exact ⟨by omega, by assumption⟩
    · omega

/- The edges of sorted spans. -/
def step (out : List Int) (s : Sp) : List Int := if 0 < out.length ∧ s.1 ≤ out[out.length - 1]?.getD 0 then out.take (out.length - 1) ++ [max (out[out.length - 1]?.getD 0) (s.2 + 1)] else out ++ [s.1, s.2 + 1]
def fold (l : List Sp) : List Int := l.foldl step []

/-- What is known of the edges when the spans up to 'lo' have been taken: none, or a first part and a last span. -/
def EdInv (out : List Int) (l : List Sp) : Prop :=
  (out = [] ∧ l = []) ∨ ∃ O p q n, out = O ++ [p, q] ∧ O.length = 2 * n ∧ out.Pairwise (· < ·) ∧ (∀ x, inE out x = hasP l x) ∧ out.length ≤ 2 * l.length ∧ ∃ s ∈ l, p ≤ s.1
theorem hasP_snoc (l : List Sp) (s : Sp) (x : Int) : hasP (l ++ [s]) x = (hasP l x || decide (s.1 ≤ x ∧ x ≤ s.2)) := by simp [hasP]
theorem step_inv (out : List Int) (l : List Sp) (s : Sp) (h : EdInv out l) (hs : ok1 s = true) (hle : ∀ t ∈ l, t.1 ≤ s.1) : EdInv (step out s) (l ++ [s]) := by
  obtain ⟨x, y⟩ := s
  have hok := ok1_true_of _ hs
  dsimp only at hok hle
  rcases h with ⟨rfl, rfl⟩ | ⟨O, p, q, n, rfl, hO, hp, hin, hlen, t, ht, hpt⟩
  · right
    refine ⟨[], x, y + 1, 0, by simp [step], rfl, by simp [step]; omega, fun z => ?_, by simp [step], _, List.mem_singleton.2 rfl, Int.le_refl _⟩
    simp only [step, List.length_nil, Nat.lt_irrefl, false_and, if_false, List.nil_append]
    simp only [inE, hasP, List.any_cons, List.any_nil, Bool.or_false, Bool.xor_false]
    by_cases h1 : x ≤ z <;> by_cases h2 : y + 1 ≤ z
    · have : ¬ z ≤ y := by omega
      simp [h1, h2, this]
    · have : z ≤ y := by omega
      simp [h1, h2, this]
    · omega
    · simp [h1, h2]
  · right
    have hlast : (O ++ [p, q])[(O ++ [p, q]).length - 1]?.getD 0 = q := by simp
    have htake : (O ++ [p, q]).take ((O ++ [p, q]).length - 1) = O ++ [p] := by
      have : O ++ [p, q] = (O ++ [p]) ++ [q] := by simp
      rw [this, List.take_left' (by simp)]
    have hpx : p ≤ x := by have := hle t ht; omega
    have hp1 : (O ++ [p]).Pairwise (· < ·) ∧ ∀ e ∈ O ++ [p], e < q := by
      have : O ++ [p, q] = (O ++ [p]) ++ [q] := by simp
      rw [this, List.pairwise_append] at hp
      exact ⟨hp.1, fun e he => hp.2.2 e he q (by simp)⟩
    have hOp : ∀ e ∈ O, e < p := by
      have := hp1.1
      rw [List.pairwise_append] at this
      exact fun e he => this.2.2 e he p (by simp)
    have hpq : p < q := hp1.2 p (by simp)
    have hOhi : ∀ z, p ≤ z → inE O z = false := fun z hz => by
      rw [inE_high O z (fun e he => by have := hOp e he; omega)]
      simp; omega
    by_cases hc : x ≤ q
    · have he : step (O ++ [p, q]) (x, y) = O ++ [p, max q (y + 1)] := by
        unfold step
        rw [hlast, if_pos ⟨by simp, hc⟩, htake]
        simp
      rw [he]
      have hpw : (O ++ [p, max q (y + 1)]).Pairwise (· < ·) := by
        have : O ++ [p, max q (y + 1)] = (O ++ [p]) ++ [max q (y + 1)] := by simp
        rw [this, List.pairwise_append]
        refine ⟨hp1.1, by simp, fun e he z hz => ?_⟩
        have h1 := hp1.2 e he
        simp at hz
        omega
      refine ⟨O, p, max q (y + 1), n, rfl, hO, hpw, fun z => ?_, by simp at hlen ⊢; omega, t, by simp [ht], hpt⟩
      rw [hasP_snoc, ← hin, inE_append, inE_append]
      by_cases hz : p ≤ z
      · rw [hOhi z hz]
        simp only [inE, Bool.false_xor, Bool.xor_false, hz, decide_true, Bool.true_xor]
        by_cases h1 : q ≤ z
        · by_cases h2 : y + 1 ≤ z
          · have h3 : ¬ (x ≤ z ∧ z ≤ y) := by omega
            have h4 : max q (y + 1) ≤ z := by omega
            simp [h1, h4]
            omega
          · have h3 : x ≤ z ∧ z ≤ y := by omega
            have h4 : ¬ max q (y + 1) ≤ z := by omega
            simp [h1, h3.1, h3.2]; omega
        · have h4 : ¬ max q (y + 1) ≤ z := by omega
          simp [h1]; omega
      · have h1 : ¬ q ≤ z := by omega
        have h2 : ¬ max q (y + 1) ≤ z := by omega
        have h3 : ¬ x ≤ z := by omega
        simp [inE, hz, h1, h2, h3]
    · have he : step (O ++ [p, q]) (x, y) = (O ++ [p, q]) ++ [x, y + 1] := by
        unfold step
        rw [hlast, if_neg (by omega)]
      rw [he]
      have hpw : ((O ++ [p, q]) ++ [x, y + 1]).Pairwise (· < ·) := by
        rw [List.pairwise_append]
        refine ⟨hp, by simp; omega, fun e he z hz => ?_⟩
        have : e ≤ q := by
          have : O ++ [p, q] = (O ++ [p]) ++ [q] := by simp
          rw [this] at he
          rcases List.mem_append.1 he with he | he
          · have := hp1.2 e he; omega
          · simp at he; omega
        simp at hz
        omega
      refine ⟨O ++ [p, q], x, y + 1, n + 1, rfl, by simp [hO]; omega, hpw, fun z => ?_, by simp at hlen ⊢; omega, (x, y), by simp, Int.le_refl _⟩
      rw [hasP_snoc, ← hin, inE_append]
      by_cases hz : x ≤ z
      · have h1 : inE (O ++ [p, q]) z = false := by
          rw [inE_append, hOhi z (by omega)]
          have a1 : p ≤ z := by omega
          have a2 : q ≤ z := by omega
          simp [inE, a1, a2]
        rw [h1]
        simp only [inE, Bool.false_xor, Bool.xor_false, hz, decide_true, Bool.true_xor, Bool.false_or, true_and]
        by_cases h2 : y + 1 ≤ z
        · have : ¬ z ≤ y := by omega
          simp [h2, this]
        · have : z ≤ y := by omega
          simp [h2, this]
      · have h2 : ¬ y + 1 ≤ z := by omega
        simp [inE, hz, h2]
theorem fold_inv : ∀ (l done : List Sp) (out : List Int), EdInv out done → (∀ s ∈ l, ok1 s = true) → l.Pairwise (fun s t => s.1 ≤ t.1) → (∀ t ∈ done, ∀ s ∈ l, t.1 ≤ s.1) → EdInv (l.foldl step out) (done ++ l) := by
  intro l
  induction l with
  | nil => intro done out h _ _ _; simpa using h
  | cons s l ih =>
    intro done out h hok hp hd
    rw [List.pairwise_cons] at hp
    have := ih (done ++ [s]) (step out s) (step_inv out done s h (hok s (by simp)) (fun t ht => hd t ht s (by simp))) (fun t ht => hok t (by simp [ht])) hp.2
      (fun t ht u hu => by
        rcases List.mem_append.1 ht with ht | ht
        · exact hd t ht u (by simp [hu])
        · simp at ht; subst ht; exact hp.1 u hu)
    simpa using this
theorem fold_edges (l : List Sp) (hok : l.all ok1 = true) (hp : l.Pairwise (fun s t => s.1 ≤ t.1)) : IsEdges (fold l) (hasP l) ∧ (fold l).length ≤ 2 * l.length := by
  have := fold_inv l [] [] (.inl ⟨rfl, rfl⟩) (List.all_eq_true.1 hok) hp (fun t ht => by cases ht)
  rw [List.nil_append] at this
  rcases this with ⟨h1, h2⟩ | ⟨O, p, q, n, _, _, h3, h4, h5, _⟩
  · have h1' : fold l = [] := h1
    rw [h1', h2]; exact ⟨⟨by simp, fun x => rfl⟩, by simp⟩
  · exact ⟨⟨h3, h4⟩, h5⟩
theorem hasP_perm {l m : List Sp} (h : l.Perm m) (x : Int) : hasP l x = hasP m x := by
  unfold hasP
  rw [Bool.eq_iff_iff, List.any_eq_true, List.any_eq_true]
  exact ⟨fun ⟨s, hs, hx⟩ => ⟨s, h.mem_iff.1 hs, hx⟩, fun ⟨s, hs, hx⟩ => ⟨s, h.mem_iff.2 hs, hx⟩⟩
theorem fold_snoc (l : List Sp) (k : Nat) (h : k < l.length) : fold (l.take (k + 1)) = step (fold (l.take k)) (l[k]?.getD (0, 0)) := by
  rw [take_snoc l (0, 0) k h]; unfold fold; rw [List.foldl_append]; rfl
end Go.Proofs.YtlgnnljleooenaaDoor
