/- Plain: the pieces that are read are of 16 bits. (Stage 11.) -/
import Derived.Test.YtpkmpebhlolhaaaDoorXC
namespace Go.Proofs.YtpkmpebhlolhaaaDoor.X
open Go.RowKit
open Go.Proofs.YtpkmpebhlolhaaaDoor.F (hx hx_bd vl)
set_option linter.unusedVariables false

theorem fold_lt : ∀ (l : List Int) (n : Nat), (∀ c ∈ l, hx c ≤ 15) → l.foldl (fun n c => n * 16 + (hx c).toNat) n < (n + 1) * 16 ^ l.length
  | [], n, _ => by simp
  | c :: l, n, h => by
    have hc := h c (by simp)
    have ih := fold_lt l (n * 16 + (hx c).toNat) (fun x hx => h x (by simp [hx]))
    have h1 : (n * 16 + (hx c).toNat + 1) * 16 ^ l.length ≤ ((n + 1) * 16) * 16 ^ l.length := Nat.mul_le_mul_right _ (by omega)
    rw [List.foldl_cons, List.length_cons, Nat.pow_succ]
    rw [Nat.mul_assoc, Nat.mul_comm 16] at h1
    exact Nat.lt_of_lt_of_le ih h1
theorem pc_small {p : List Int} {v : Nat} (h : pc p = some v) : v < 65536 := by
  unfold pc at h
  split at h
  · rename_i hp
    cases h
    have := fold_lt p 0 (fun c _ => (hx_bd c).2)
    have h2 : (0 + 1) * 16 ^ p.length ≤ 65536 := by
      rw [Nat.zero_add, Nat.one_mul]
      exact Nat.le_trans (Nat.pow_le_pow_right (by decide) hp.2.1) (by decide)
    exact Nat.lt_of_lt_of_le this h2
  · cases h
theorem dn_small {p : List Int} {v : Nat} (h : dn p = some v) : v ≤ 255 := by
  unfold dn at h
  split at h
  · rename_i hp; cases h; exact hp.2.2.2.2
  · cases h
theorem dt_small {p : List Int} {l : List Nat} (h : dt p = some l) : Small l := by
  unfold dt four2 at h
  split at h
  · rename_i a b c d e
    cases h
    have g : ∀ x, some x ∈ (spB 46 p).map dn → x ≤ 255 := fun x hx => by
      obtain ⟨q, _, hq⟩ := List.mem_map.1 hx
      exact dn_small hq
    rw [e] at g
    have ga := g a (by simp)
    have gb := g b (by simp)
    have gc := g c (by simp)
    have gd := g d (by simp)
    intro v hv
    simp at hv
    rcases hv with rfl | rfl <;> omega
  · cases h
theorem one_small {p : List Int} {l : List Nat} (h : (pc p).map (fun v => [v]) = some l) : Small l := by
  cases hp : pc p with
  | none => rw [hp] at h; cases h
  | some v =>
    rw [hp] at h
    cases h
    intro x hx
    rw [List.mem_singleton.1 hx]
    exact pc_small hp
theorem lst_small {last : Bool} {p : List Int} {l : List Nat} (h : lst last p = some l) : Small l := by
  unfold lst at h
  split at h
  · split at h
    · rename_i e; cases h; exact dt_small e
    · exact one_small h
  · exact one_small h
theorem pcs_small {last : Bool} : ∀ {ps : List (List Int)} {l : List Nat}, pcs last ps = some l → Small l
  | [], l, h => by cases h; intro v hv; cases hv
  | [p], l, h => lst_small h
  | p :: q :: r, l, h => by
    rw [pcs] at h
    cases hp : pc p with
    | none => rw [hp] at h; cases h
    | some v =>
      cases hr : pcs last (q :: r) with
      | none => rw [hp, hr] at h; cases h
      | some m =>
        rw [hp, hr] at h
        cases h
        intro x hx
        rcases List.mem_cons.1 hx with rfl | hx
        · exact pc_small hp
        · exact pcs_small hr x hx
theorem pieces_small {last : Bool} {s : List Int} {l : List Nat} (h : pieces last s = some l) : Small l := by
  unfold pieces at h
  split at h
  · cases h; intro v hv; cases hv
  · exact pcs_small h
theorem prs_small {s : List Int} {v : List Nat} (h : prs s = some v) : Small v := by
  unfold prs at h
  split at h
  · cases hp : pieces true s with
    | none => rw [hp] at h; cases h
    | some l =>
      rw [hp] at h
      unfold full at h
      simp only at h
      split at h
      · cases h; exact pieces_small hp
      · cases h
  · split at h
    · cases hf : pieces false (s.take (cp s)) with
      | none => rw [hf] at h; cases h
      | some f =>
        cases hb : pieces true (s.drop (cp s + 2)) with
        | none => rw [hf, hb] at h; cases h
        | some b =>
          rw [hf, hb] at h
          unfold both at h
          simp only at h
          split at h
          · cases h
            intro x hx
            rw [List.mem_append, List.mem_append] at hx
            rcases hx with (hx | hx) | hx
            · exact pieces_small hf x hx
            · rw [List.eq_of_mem_replicate hx]; decide
            · exact pieces_small hb x hx
          · cases h
    · cases h
end Go.Proofs.YtpkmpebhlolhaaaDoor.X
