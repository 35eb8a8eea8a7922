/- What stands in bytes, one behind the other, and its first facts. -/
import Derived.Test.YtnkbfpmaifgenaaUM
namespace Go.Proofs.Ytnkbfpmaifgenaa.U
open Go.RowKit

/-- What an iteration hands over: a code point within bounds, and whether it is whole. -/
abbrev Sc := { x : Int × Bool // 0 ≤ x.1 ∧ x.1 ≤ 1114111 }
def toSc (p : Int × Nat × Bool) : Sc := if h : 0 ≤ p.1 ∧ p.1 ≤ 1114111 then ⟨(p.1, p.2.2), h⟩ else ⟨(65533, false), by decide⟩
def scs : Nat → List Int → List Sc
  | 0, _ => []
  | _ + 1, [] => []
  | f + 1, a :: t => toSc (nx (a :: t)) :: scs f ((a :: t).drop (nx (a :: t)).2.1)
def scl (l : List Int) : List Sc := scs l.length l
def Bytes (l : List Int) : Prop := ∀ b ∈ l, 0 ≤ b ∧ b ≤ 255

theorem nxl_n : ∀ (f : Nat) (t : List Int) (n : Nat) (r lo hi : Int), n ≤ (nxl f t n r lo hi).2.1 ∧ (nxl f t n r lo hi).2.1 ≤ n + t.length
  | 0, _, _, _, _, _ => by simp [nxl]
  | _ + 1, [], _, _, _, _ => by simp [nxl]
  | f + 1, b :: t, n, r, lo, hi => by
    rw [nxl]
    split
    · simp
    · have := nxl_n f t (n + 1) (r * 64 + b % 64) 128 191
      simp only [List.length_cons]; omega
theorem nx_n (l : List Int) (h : l ≠ []) : 1 ≤ (nx l).2.1 ∧ (nx l).2.1 ≤ l.length := by
  match l with
  | [] => exact absurd rfl h
  | a :: t =>
    rw [nx]
    split
    · simp
    · split
      · simp
      · have := nxl_n (follow a).toNat t 1 (if follow a = 1 then a % 32 else if follow a = 2 then a % 16 else a % 8) (lowOf a) (highOf a)
        simp only [List.length_cons]; omega

theorem scs_same : ∀ (f g : Nat) (l : List Int), l.length ≤ f → l.length ≤ g → scs f l = scs g l
  | 0, 0, _, _, _ => rfl
  | 0, _ + 1, [], _, _ => rfl
  | 0, _ + 1, _ :: _, h, _ => by simp at h
  | _ + 1, 0, [], _, _ => rfl
  | _ + 1, 0, _ :: _, _, h => by simp at h
  | _ + 1, _ + 1, [], _, _ => rfl
  | f + 1, g + 1, a :: t, h, k => by
    have hn := nx_n (a :: t) (by simp)
    have hlen : ((a :: t).drop (nx (a :: t)).2.1).length ≤ t.length := by simp only [List.length_drop, List.length_cons]; omega
    simp only [List.length_cons] at h k
    show toSc (nx (a :: t)) :: scs f _ = toSc (nx (a :: t)) :: scs g _
    rw [scs_same f g _ (by omega) (by omega)]
theorem scs_fuel (f : Nat) (l : List Int) (h : l.length ≤ f) : scs f l = scl l := scs_same f l.length l h (Nat.le_refl _)
theorem scl_nil : scl [] = [] := rfl
theorem scl_cons (l : List Int) (h : l ≠ []) : scl l = toSc (nx l) :: scl (l.drop (nx l).2.1) := by
  match l with
  | [] => exact absurd rfl h
  | a :: t =>
    have hn := nx_n (a :: t) (by simp)
    show toSc (nx (a :: t)) :: scs t.length _ = _
    rw [scs_fuel t.length _ (by simp only [List.length_drop, List.length_cons]; omega)]

theorem bn_bytes (s : ByteArray) : Bytes (bn s) := by
  intro b hb
  simp only [bn, List.mem_map] at hb
  obtain ⟨c, _, rfl⟩ := hb
  have := c.toNat_lt
  omega
theorem Bytes.drop {l : List Int} (h : Bytes l) (k : Nat) : Bytes (l.drop k) := fun b hb => h b (List.mem_of_mem_drop hb)
theorem Bytes.take {l : List Int} (h : Bytes l) (k : Nat) : Bytes (l.take k) := fun b hb => h b (List.mem_of_mem_take hb)

/-- The five ways in which something may stand at the front. -/
theorem nx_inv (l : List Int) (h : l ≠ []) (hl : Bytes l) :
    (∃ a t, l = a :: t ∧ 0 ≤ a ∧ a < 128 ∧ nx l = (a, 1, true)) ∨
    (∃ a b t, l = a :: b :: t ∧ 194 ≤ a ∧ a ≤ 223 ∧ 128 ≤ b ∧ b ≤ 191 ∧ nx l = ((a - 192) * 64 + (b - 128), 2, true)) ∨
    (∃ a b c t, l = a :: b :: c :: t ∧ 224 ≤ a ∧ a ≤ 239 ∧ lowOf a ≤ b ∧ b ≤ highOf a ∧ 128 ≤ c ∧ c ≤ 191 ∧ nx l = ((a - 224) * 4096 + (b - 128) * 64 + (c - 128), 3, true)) ∨
    (∃ a b c d t, l = a :: b :: c :: d :: t ∧ 240 ≤ a ∧ a ≤ 244 ∧ lowOf a ≤ b ∧ b ≤ highOf a ∧ 128 ≤ c ∧ c ≤ 191 ∧ 128 ≤ d ∧ d ≤ 191 ∧ nx l = ((a - 240) * 262144 + (b - 128) * 4096 + (c - 128) * 64 + (d - 128), 4, true)) ∨
    (∃ n, 1 ≤ n ∧ n ≤ 3 ∧ nx l = (65533, n, false)) := by
  have hlo : ∀ c, 128 ≤ lowOf c := fun c => by unfold lowOf; (repeat' split) <;> omega
  have hhi : ∀ c, highOf c ≤ 191 := fun c => by unfold highOf; (repeat' split) <;> omega
  match l with
  | [] => exact absurd rfl h
  | a :: t =>
    have ha := hl a (by simp)
    by_cases h8 : a < 128
    · exact .inl ⟨a, t, rfl, ha.1, h8, by rw [nx, if_pos h8]⟩
    rcases follow_cases a with hf | ⟨hf, h1, h2⟩ | ⟨hf, h1, h2⟩ | ⟨hf, h1, h2⟩
    · exact .inr (.inr (.inr (.inr ⟨1, by omega, by omega, by rw [nx, if_neg h8, if_pos hf]⟩)))
    · have hl1 : lowOf a = 128 := by unfold lowOf; rw [if_neg (by omega), if_neg (by omega)]
      have hh1 : highOf a = 191 := by unfold highOf; rw [if_neg (by omega), if_neg (by omega)]
      have e : nx (a :: t) = nxl 1 t 1 (a % 32) 128 191 := by rw [nx, if_neg h8, hf, hl1, hh1]; rfl
      match t with
      | [] => exact .inr (.inr (.inr (.inr ⟨1, by omega, by omega, by rw [e]; rfl⟩)))
      | b :: t =>
        by_cases hb : b < 128 ∨ 191 < b
        · exact .inr (.inr (.inr (.inr ⟨1, by omega, by omega, by rw [e, nxl, if_pos hb]⟩)))
        · refine .inr (.inl ⟨a, b, t, rfl, h1, h2, by omega, by omega, ?_⟩)
          rw [e, nxl, if_neg hb, nxl]
          refine Prod.ext ?_ rfl
          simp only; omega
    · have e : nx (a :: t) = nxl 2 t 1 (a % 16) (lowOf a) (highOf a) := by rw [nx, if_neg h8, hf]; rfl
      have q1 := hlo a
      have q2 := hhi a
      match t with
      | [] => exact .inr (.inr (.inr (.inr ⟨1, by omega, by omega, by rw [e]; rfl⟩)))
      | b :: t =>
        by_cases hb : b < lowOf a ∨ highOf a < b
        · exact .inr (.inr (.inr (.inr ⟨1, by omega, by omega, by rw [e, nxl, if_pos hb]⟩)))
        · match t with
          | [] => exact .inr (.inr (.inr (.inr ⟨2, by omega, by omega, by rw [e, nxl, if_neg hb]; rfl⟩)))
          | c :: t =>
            by_cases hc : c < 128 ∨ 191 < c
            · exact .inr (.inr (.inr (.inr ⟨2, by omega, by omega, by rw [e, nxl, if_neg hb, nxl, if_pos hc]⟩)))
            · refine .inr (.inr (.inl ⟨a, b, c, t, rfl, h1, h2, by omega, by omega, by omega, by omega, ?_⟩))
              rw [e, nxl, if_neg hb, nxl, if_neg hc, nxl]
              refine Prod.ext ?_ rfl
              simp only; omega
    · have e : nx (a :: t) = nxl 3 t 1 (a % 8) (lowOf a) (highOf a) := by rw [nx, if_neg h8, hf]; rfl
      have q1 := hlo a
      have q2 := hhi a
      match t with
      | [] => exact .inr (.inr (.inr (.inr ⟨1, by omega, by omega, by rw [e]; rfl⟩)))
      | b :: t =>
        by_cases hb : b < lowOf a ∨ highOf a < b
        · exact .inr (.inr (.inr (.inr ⟨1, by omega, by omega, by rw [e, nxl, if_pos hb]⟩)))
        · match t with
          | [] => exact .inr (.inr (.inr (.inr ⟨2, by omega, by omega, by rw [e, nxl, if_neg hb]; rfl⟩)))
          | c :: t =>
            by_cases hc : c < 128 ∨ 191 < c
            · exact .inr (.inr (.inr (.inr ⟨2, by omega, by omega, by rw [e, nxl, if_neg hb, nxl, if_pos hc]⟩)))
            · match t with
              | [] => exact .inr (.inr (.inr (.inr ⟨3, by omega, by omega, by rw [e, nxl, if_neg hb, nxl, if_neg hc]; rfl⟩)))
              | d :: t =>
                by_cases hd : d < 128 ∨ 191 < d
                · exact .inr (.inr (.inr (.inr ⟨3, by omega, by omega, by rw [e, nxl, if_neg hb, nxl, if_neg hc, nxl, if_pos hd]⟩)))
                · refine .inr (.inr (.inr (.inl ⟨a, b, c, d, t, rfl, h1, h2, by omega, by omega, by omega, by omega, by omega, by omega, ?_⟩)))
                  rw [e, nxl, if_neg hb, nxl, if_neg hc, nxl, if_neg hd, nxl]
                  refine Prod.ext ?_ rfl
                  simp only; omega

/-- What stands there is a scalar, or the sign; within bounds in every case. -/
theorem nx_scal (l : List Int) (h : l ≠ []) (hl : Bytes l) : scal (nx l).1 = true := by
  unfold scal
  rw [decide_eq_true_eq]
  rcases nx_inv l h hl with ⟨a, t, _, h0, h1, e⟩ | ⟨a, b, t, _, h1, h2, h3, h4, e⟩ | ⟨a, b, c, t, _, h1, h2, h3, h4, h5, h6, e⟩ | ⟨a, b, c, d, t, _, h1, h2, h3, h4, h5, h6, h7, h8, e⟩ | ⟨n, _, _, e⟩
  · rw [e]; simp only; omega
  · rw [e]; simp only; omega
  · rw [e]; simp only
    unfold lowOf at h3; unfold highOf at h4
    by_cases q1 : a = 224
    · subst q1; simp at h3 h4; omega
    · by_cases q2 : a = 237
      · subst q2; simp at h3 h4; omega
      · rw [if_neg q1, if_neg (by omega)] at h3; rw [if_neg q2, if_neg (by omega)] at h4; omega
  · rw [e]; simp only
    unfold lowOf at h3; unfold highOf at h4
    by_cases q1 : a = 240
    · subst q1; simp at h3 h4; omega
    · by_cases q2 : a = 244
      · subst q2; simp at h3 h4; omega
      · rw [if_neg (by omega), if_neg q1] at h3; rw [if_neg (by omega), if_neg q2] at h4; omega
  · rw [e]; simp only; omega
theorem nx_bd (l : List Int) (hl : Bytes l) : 0 ≤ (nx l).1 ∧ (nx l).1 ≤ 1114111 := by
  by_cases h : l = []
  · subst h; decide
  · have := nx_scal l h hl
    unfold scal at this
    rw [decide_eq_true_eq] at this
    omega
theorem toSc_nx (l : List Int) (hl : Bytes l) : (toSc (nx l)).1 = ((nx l).1, (nx l).2.2) := by
  unfold toSc; rw [dif_pos (nx_bd l hl)]
end Go.Proofs.Ytnkbfpmaifgenaa.U
