/- Plain: what addresses of eight pieces are as text. (Stage 11.) -/
import Derived.Test.YtpkmpebhlolhaaaDoorFP
namespace Go.Proofs.YtpkmpebhlolhaaaDoor.X
open Go.Proofs.YtpkmpebhlolhaaaDoor.F (hx hx_bd vl)
set_option linter.unusedVariables false

/-! ### Split by a byte -/
def spB (b : Int) : List Int → List (List Int)
  | [] => [[]]
  | c :: l => if c = b then [] :: spB b l else (c :: (spB b l).headD []) :: (spB b l).tail
def joinB (b : Int) : List (List Int) → List Int
  | [] => []
  | [p] => p
  | p :: q :: r => p ++ b :: joinB b (q :: r)
theorem sp_plain (b : Int) : ∀ (p l : List Int), ¬ b ∈ p → spB b (p ++ b :: l) = p :: spB b l
  | [], l, _ => by show spB b (b :: l) = _; rw [spB, if_pos rfl]
  | c :: p, l, h => by
    have hc : c ≠ b := fun e => h (by simp [e])
    have ih := sp_plain b p l (fun hh => h (by simp [hh]))
    show spB b (c :: (p ++ b :: l)) = _
    rw [spB, if_neg hc, ih]; rfl
theorem sp_one (b : Int) : ∀ (p : List Int), ¬ b ∈ p → spB b p = [p]
  | [], _ => rfl
  | c :: p, h => by
    have hc : c ≠ b := fun e => h (by simp [e])
    rw [spB, if_neg hc, sp_one b p (fun hh => h (by simp [hh]))]; rfl
theorem sp_join (b : Int) : ∀ (ps : List (List Int)), ps ≠ [] → (∀ p ∈ ps, ¬ b ∈ p) → spB b (joinB b ps) = ps
  | [], h, _ => absurd rfl h
  | [p], _, h => sp_one b p (h p (by simp))
  | p :: q :: r, _, h => by
    rw [joinB, sp_plain b p _ (h p (by simp)), sp_join b (q :: r) (by simp) (fun x hx => h x (by simp at hx ⊢; right; exact hx))]
/-! ### Pieces -/
def ten (c : Int) : Bool := decide (48 ≤ c ∧ c ≤ 57)
def hxd (c : Int) : Bool := decide (0 ≤ hx c)
def pc (p : List Int) : Option Nat := if 1 ≤ p.length ∧ p.length ≤ 4 ∧ p.all hxd = true then some (vl 16 p) else none
def dn (p : List Int) : Option Nat := if 1 ≤ p.length ∧ p.length ≤ 3 ∧ ¬ (1 < p.length ∧ p[0]?.getD 0 = 48) ∧ p.all ten = true ∧ vl 10 p ≤ 255 then some (vl 10 p) else none
/-- Four numbers as two pieces. -/
def four2 : List (Option Nat) → Option (List Nat)
  | [some a, some b, some c, some d] => some [a * 256 + b, c * 256 + d]
  | _ => none
def dt (p : List Int) : Option (List Nat) := four2 ((spB 46 p).map dn)
/-- The last one, which may be dotted. -/
def lst (last : Bool) (p : List Int) : Option (List Nat) := if last = true then (match dt p with | some l => some l | none => (pc p).map (fun v => [v])) else (pc p).map (fun v => [v])
def put (v : Option Nat) (l : Option (List Nat)) : Option (List Nat) := match v, l with
  | some v, some l => some (v :: l)
  | _, _ => none
def pcs (last : Bool) : List (List Int) → Option (List Nat)
  | [] => some []
  | [p] => lst last p
  | p :: q :: r => put (pc p) (pcs last (q :: r))
def pieces (last : Bool) (s : List Int) : Option (List Nat) := if s = [] then some [] else pcs last (spB 58 s)
/-! ### Two colons -/
/-- How often two colons stand side by side. -/
def cc : List Int → Nat
  | a :: b :: t => (if a = 58 ∧ b = 58 then 1 else 0) + cc (b :: t)
  | _ => 0
/-- Where they stand first. -/
def cp : List Int → Nat
  | a :: b :: t => if a = 58 ∧ b = 58 then 0 else cp (b :: t) + 1
  | _ => 0
def full (l : Option (List Nat)) : Option (List Nat) := match l with
  | some l => if l.length = 8 then some l else none
  | none => none
def both (f b : Option (List Nat)) : Option (List Nat) := match f, b with
  | some f, some b => if f.length + b.length ≤ 7 then some (f ++ List.replicate (8 - b.length - f.length) 0 ++ b) else none
  | _, _ => none
/-- What Parse answers: the pieces, or none. -/
def prs (s : List Int) : Option (List Nat) :=
  if cc s = 0 then full (pieces true s) else if cc s = 1 then both (pieces false (s.take (cp s))) (pieces true (s.drop (cp s + 2))) else none
theorem full_len {l : Option (List Nat)} {v : List Nat} (h : full l = some v) : v.length = 8 := by
  cases l with
  | none => cases h
  | some l =>
    unfold full at h
    simp only at h
    split at h
    · cases h; assumption
    · cases h
theorem both_len {f b : Option (List Nat)} {v : List Nat} (h : both f b = some v) : v.length = 8 := by
  cases f with
  | none => cases h
  | some f =>
    cases b with
    | none => cases h
    | some b =>
      unfold both at h
      simp only at h
      split at h
      · cases h; simp; omega
      · cases h
theorem prs_len {s : List Int} {v : List Nat} (h : prs s = some v) : v.length = 8 := by
  unfold prs at h
  split at h
  · exact full_len h
  · split at h
    · exact both_len h
    · cases h
/-! ### Counting two colons -/
theorem cc_cons2 (a b : Int) (t : List Int) : cc (a :: b :: t) = (if a = 58 ∧ b = 58 then 1 else 0) + cc (b :: t) := rfl
theorem cc_free : ∀ (p : List Int), ¬ 58 ∈ p → cc p = 0
  | [], _ => rfl
  | [a], _ => rfl
  | a :: b :: t, h => by
    rw [cc_cons2, if_neg (fun hh => h (by simp [hh.1])), cc_free (b :: t) (fun hh => h (by simp at hh ⊢; right; exact hh))]
/-- One text behind another. -/
theorem cc_app : ∀ (A B : List Int), cc (A ++ B) = cc A + cc B + (if A.getLast? = some 58 ∧ B.head? = some 58 then 1 else 0)
  | [], B => by simp [cc]
  | [a], [] => by simp [cc]
  | [a], b :: t => by
    show cc (a :: b :: t) = _
    rw [cc_cons2]
    have e : cc [a] = 0 := rfl
    rw [e]
    by_cases h : a = 58 ∧ b = 58
    · rw [if_pos h, if_pos (by simp [h.1, h.2])]; omega
    · rw [if_neg h, if_neg (by simpa using h)]; omega
  | a :: a' :: A, B => by
    have ih := cc_app (a' :: A) B
    show cc (a :: a' :: (A ++ B)) = _
    rw [cc_cons2, cc_cons2]
    have e : cc (a' :: (A ++ B)) = cc (a' :: A ++ B) := rfl
    rw [e, ih]
    have g : (a :: a' :: A).getLast? = (a' :: A).getLast? := by simp
    rw [g]; omega
/-- Texts that go between colons. -/
def Txt (p : List Int) : Prop := p ≠ [] ∧ ¬ 58 ∈ p
theorem last_ne {p : List Int} (h : Txt p) : p.getLast? ≠ some 58 := fun e => h.2 (List.mem_of_getLast? e)
theorem head_ne {p : List Int} (h : Txt p) : p.head? ≠ some 58 := fun e => h.2 (List.mem_of_mem_head? e)
theorem join_ends : ∀ (ps : List (List Int)), ps ≠ [] → (∀ p ∈ ps, Txt p) → joinB 58 ps ≠ [] ∧ (joinB 58 ps).getLast? ≠ some 58 ∧ (joinB 58 ps).head? ≠ some 58 ∧ cc (joinB 58 ps) = 0
  | [], h, _ => absurd rfl h
  | [p], _, h => by
    have hp := h p (by simp)
    exact ⟨hp.1, last_ne hp, head_ne hp, cc_free p hp.2⟩
  | p :: q :: r, _, h => by
    have hp := h p (by simp)
    obtain ⟨i1, i2, i3, i4⟩ := join_ends (q :: r) (by simp) (fun x hx => h x (by simp at hx ⊢; right; exact hx))
    rw [joinB]
    refine ⟨by simp, ?_, ?_, ?_⟩
    · obtain ⟨z, hz⟩ : ∃ z, joinB 58 (q :: r) = z := ⟨_, rfl⟩
      rw [hz] at i1 i2 ⊢
      cases z with
      | nil => exact absurd rfl i1
      | cons c t => simpa using i2
    · cases p with
      | nil => exact absurd rfl hp.1
      | cons c t =>
        have := head_ne hp
        simpa using this
    · rw [cc_app, cc_free p hp.2]
      have e : (58 :: joinB 58 (q :: r)) = [58] ++ joinB 58 (q :: r) := rfl
      rw [e, cc_app, i4]
      have e1 : cc [58] = 0 := rfl
      rw [e1, if_neg (fun hh => i3 hh.2), if_neg (fun hh => last_ne hp hh.1)]
/-- Where two colons stand. -/
theorem cp_at : ∀ (A B : List Int), cc (A ++ [58]) = 0 → cp (A ++ 58 :: 58 :: B) = A.length
  | [], B, _ => by show cp (58 :: 58 :: B) = 0; rw [cp, if_pos ⟨rfl, rfl⟩]
  | [a], B, h => by
    have h' : cc [a, 58] = 0 := h
    rw [cc_cons2] at h'
    have ha : ¬ (a = 58 ∧ (58 : Int) = 58) := fun hh => by rw [if_pos hh] at h'; omega
    show cp (a :: 58 :: 58 :: B) = 1
    rw [cp, if_neg ha, cp, if_pos ⟨rfl, rfl⟩]
  | a :: a' :: A, B, h => by
    have h' : cc (a :: a' :: (A ++ [58])) = 0 := h
    rw [cc_cons2] at h'
    have ha : ¬ (a = 58 ∧ a' = 58) := fun hh => by rw [if_pos hh] at h'; omega
    have h2 : cc (a' :: A ++ [58]) = 0 := by
      rw [if_neg ha, Nat.zero_add] at h'; exact h'
    have ih := cp_at (a' :: A) B h2
    show cp (a :: a' :: (A ++ 58 :: 58 :: B)) = _
    rw [cp, if_neg ha]
    have e : cp (a' :: (A ++ 58 :: 58 :: B)) = (a' :: A).length := ih
    rw [e]; rfl
/-! ### What is written is read -/
theorem pieces_join {last : Bool} {ps : List (List Int)} (h : ∀ p ∈ ps, Txt p) : pieces last (joinB 58 ps) = pcs last ps := by
  cases hps : ps with
  | nil => rfl
  | cons p r =>
    rw [← hps]
    have hne : ps ≠ [] := by rw [hps]; simp
    unfold pieces
    rw [if_neg (join_ends ps hne h).1, sp_join 58 ps hne (fun p hp => (h p hp).2)]
/-- Without two colons. -/
theorem prs_row {ps : List (List Int)} (h : ∀ p ∈ ps, Txt p) : prs (joinB 58 ps) = full (pcs true ps) := by
  have hc : cc (joinB 58 ps) = 0 := by
    cases hps : ps with
    | nil => rfl
    | cons p r => rw [← hps]; exact (join_ends ps (by rw [hps]; simp) h).2.2.2
  unfold prs
  rw [if_pos hc, pieces_join h]
/-- With two colons between. -/
theorem prs_gap {fs bs : List (List Int)} (hf : ∀ p ∈ fs, Txt p) (hb : ∀ p ∈ bs, Txt p) : prs (joinB 58 fs ++ 58 :: 58 :: joinB 58 bs) = both (pcs false fs) (pcs true bs) := by
  have f0 : cc (joinB 58 fs) = 0 ∧ (joinB 58 fs).getLast? ≠ some 58 := by
    cases hps : fs with
    | nil => exact ⟨rfl, by simp [joinB]⟩
    | cons p r => rw [← hps]; have := join_ends fs (by rw [hps]; simp) hf; exact ⟨this.2.2.2, this.2.1⟩
  have b0 : cc (joinB 58 bs) = 0 ∧ (joinB 58 bs).head? ≠ some 58 := by
    cases hps : bs with
    | nil => exact ⟨rfl, by simp [joinB]⟩
    | cons p r => rw [← hps]; have := join_ends bs (by rw [hps]; simp) hb; exact ⟨this.2.2.2, this.2.2.1⟩
  have c1 : cc (joinB 58 fs ++ [58]) = 0 := by
    rw [cc_app, f0.1, if_neg (fun hh => f0.2 hh.1)]; rfl
  have c2 : cc (joinB 58 fs ++ 58 :: 58 :: joinB 58 bs) = 1 := by
    have e : joinB 58 fs ++ 58 :: 58 :: joinB 58 bs = (joinB 58 fs ++ [58]) ++ ([58] ++ joinB 58 bs) := by simp
    rw [e, cc_app, c1, cc_app, b0.1, if_neg (fun hh => b0.2 hh.2), if_pos ⟨by simp, by simp⟩]; rfl
  have p1 := cp_at (joinB 58 fs) (joinB 58 bs) c1
  unfold prs
  rw [c2, if_neg (by decide), if_pos rfl, p1]
  have t1 : (joinB 58 fs ++ 58 :: 58 :: joinB 58 bs).take (joinB 58 fs).length = joinB 58 fs := List.take_left
  have t2 : (joinB 58 fs ++ 58 :: 58 :: joinB 58 bs).drop ((joinB 58 fs).length + 2) = joinB 58 bs := by
    rw [← List.drop_drop, List.drop_left]; rfl
  rw [t1, t2, pieces_join hf, pieces_join hb]
end Go.Proofs.YtpkmpebhlolhaaaDoor.X
