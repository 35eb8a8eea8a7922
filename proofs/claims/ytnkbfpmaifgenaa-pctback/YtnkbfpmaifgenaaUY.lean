/- Plain facts on the document's own answer: its whole, its begins, its value, against what stands at the front. -/
import Derived.Test.YtnkbfpmaifgenaaUT
namespace Go.Proofs.Ytnkbfpmaifgenaa.U
open Go.RowKit

def valR : List Int → Int
  | [a] => a
  | [a, b] => (a - 192) * 64 + b - 128
  | [a, b, c] => ((a - 224) * 64 + b - 128) * 64 + c - 128
  | [a, b, c, d] => (((a - 240) * 64 + b - 128) * 64 + c - 128) * 64 + d - 128
  | _ => 0
def wholeR (l : List Int) : Bool := scal (valR l) && decide (enc (valR l) = l)
def begL : List Int → Bool
  | [a, b] => decide ((194 ≤ a ∧ a ≤ 223 ∧ 128 ≤ b ∧ b ≤ 191) ∨ (224 ≤ a ∧ a ≤ 244 ∧ lowOf a ≤ b ∧ b ≤ highOf a))
  | [a, b, c] => decide (224 ≤ a ∧ a ≤ 244 ∧ lowOf a ≤ b ∧ b ≤ highOf a ∧ 128 ≤ c ∧ c ≤ 191)
  | _ => false

theorem val_enc (c : Int) : valR (enc c) = c := by
  unfold enc
  by_cases q1 : c < 128
  · rw [if_pos q1]; rfl
  · rw [if_neg q1]
    by_cases q2 : c < 2048
    · rw [if_pos q2]; simp only [valR]; omega
    · rw [if_neg q2]
      by_cases q3 : c < 65536
      · rw [if_pos q3]; simp only [valR]; omega
      · rw [if_neg q3]; simp only [valR]; omega

/-- The document's whole is what is whole at the front, of just its bytes. -/
theorem whole_iff (l : List Int) (hne : l ≠ []) (hl : Bytes l) (n : Nat) (_h1 : 1 ≤ n) (hn : n ≤ l.length) :
    (wholeR (l.take n) = true → nx l = (valR (l.take n), n, true)) ∧ ((nx l).2.2 = true → (nx l).2.1 = n → wholeR (l.take n) = true) := by
  constructor
  · intro h
    unfold wholeR at h
    rw [Bool.and_eq_true, decide_eq_true_eq] at h
    have hx := nx_enc _ h.1 (l.drop n)
    rw [h.2, List.take_append_drop] at hx
    rw [hx, List.length_take]
    congr 2
    omega
  · intro hw hn'
    have he := (nx_whole l hne hl hw).2.1
    have hs := nx_scal l hne hl
    rw [hn'] at he
    unfold wholeR
    rw [← he, val_enc, hs]
    simp

/-- Where nothing is whole: how many bytes the sign stands for, told by the document's begins. -/
theorem nx_fail (l : List Int) (hne : l ≠ []) (hl : Bytes l) (hw : (nx l).2.2 = false) :
    nx l = (65533, (nx l).2.1, false) ∧ (nx l).2.1 ≤ 3 ∧ (∀ k, 1 ≤ k → k < (nx l).2.1 → begL (l.take (k + 1)) = true) ∧ ((nx l).2.1 < l.length → (nx l).2.1 < 3 → begL (l.take ((nx l).2.1 + 1)) = false) := by
  match l with
  | [] => exact absurd rfl hne
  | a :: t =>
    have ha := hl a (by simp)
    by_cases h8 : a < 128
    · rw [nx_w1 a t h8] at hw; cases hw
    rcases follow_cases a with hf | ⟨hf, h1, h2⟩ | ⟨hf, h1, h2⟩ | ⟨hf, h1, h2⟩
    · have e : nx (a :: t) = (65533, 1, false) := by rw [nx, if_neg h8, if_pos hf]
      rw [e]
      refine ⟨rfl, by decide, fun k g1 g2 => by simp only at g2; omega, fun g1 _ => ?_⟩
      match t with
      | [] => simp at g1
      | b :: t =>
        show begL [a, b] = false
        have hout : ¬ (194 ≤ a ∧ a ≤ 244) := by
          unfold follow at hf
          by_cases q3 : 240 ≤ a ∧ a ≤ 244
          · rw [if_pos q3] at hf; cases hf
          · rw [if_neg q3] at hf
            by_cases q2 : 224 ≤ a ∧ a ≤ 239
            · rw [if_pos q2] at hf; cases hf
            · rw [if_neg q2] at hf
              by_cases q1 : 194 ≤ a ∧ a ≤ 223
              · rw [if_pos q1] at hf; cases hf
              · omega
        simp only [begL, decide_eq_false_iff_not]; omega
    · have hl1 : lowOf a = 128 := by unfold lowOf; rw [if_neg (by omega), if_neg (by omega)]
      have hh1 : highOf a = 191 := by unfold highOf; rw [if_neg (by omega), if_neg (by omega)]
      have e : nx (a :: t) = nxl 1 t 1 (a % 32) 128 191 := by rw [nx, if_neg h8, hf, hl1, hh1]; rfl
      match t with
      | [] =>
        have e2 : nx [a] = (65533, 1, false) := by rw [e]; rfl
        rw [e2]
        exact ⟨rfl, by decide, fun k g1 g2 => by simp only at g2; omega, fun g1 _ => by simp at g1⟩
      | b :: t =>
        by_cases hb : b < 128 ∨ 191 < b
        · have e2 : nx (a :: b :: t) = (65533, 1, false) := by rw [e, nxl, if_pos hb]
          rw [e2]
          refine ⟨rfl, by decide, fun k g1 g2 => by simp only at g2; omega, fun _ _ => ?_⟩
          show begL [a, b] = false
          simp only [begL, decide_eq_false_iff_not]; omega
        · rw [nx_w2 a b t h1 h2 (by omega) (by omega)] at hw; cases hw
    · have q1 := low_ge a
      have q2 := high_le a
      have e := fun t => nx_e3 a t h1 h2
      match t with
      | [] =>
        have e2 : nx [a] = (65533, 1, false) := by rw [e]; rfl
        rw [e2]
        exact ⟨rfl, by decide, fun k g1 g2 => by simp only at g2; omega, fun g1 _ => by simp at g1⟩
      | b :: t =>
        by_cases hb : b < lowOf a ∨ highOf a < b
        · have e2 : nx (a :: b :: t) = (65533, 1, false) := by rw [e, nxl, if_pos hb]
          rw [e2]
          refine ⟨rfl, by decide, fun k g1 g2 => by simp only at g2; omega, fun _ _ => ?_⟩
          show begL [a, b] = false
          simp only [begL, decide_eq_false_iff_not]; omega
        · have hb1 : begL [a, b] = true := by simp only [begL, decide_eq_true_eq]; omega
          match t with
          | [] =>
            have e2 : nx [a, b] = (65533, 2, false) := by rw [e, nxl, if_neg hb]; rfl
            rw [e2]
            refine ⟨rfl, by decide, fun k g1 g2 => ?_, fun g1 _ => by simp at g1⟩
            obtain rfl : k = 1 := by simp only at g2; omega
            exact hb1
          | c :: t =>
            by_cases hc : c < 128 ∨ 191 < c
            · have e2 : nx (a :: b :: c :: t) = (65533, 2, false) := by rw [e, nxl, if_neg hb, nxl, if_pos hc]
              rw [e2]
              refine ⟨rfl, by decide, fun k g1 g2 => ?_, fun _ _ => ?_⟩
              · obtain rfl : k = 1 := by simp only at g2; omega
                exact hb1
              · show begL [a, b, c] = false
                simp only [begL, decide_eq_false_iff_not]; omega
            · rw [nx_w3 a b c t h1 h2 (by omega) (by omega) (by omega) (by omega)] at hw; cases hw
    · have q1 := low_ge a
      have q2 := high_le a
      have e := fun t => nx_e4 a t h1 h2
      match t with
      | [] =>
        have e2 : nx [a] = (65533, 1, false) := by rw [e]; rfl
        rw [e2]
        exact ⟨rfl, by decide, fun k g1 g2 => by simp only at g2; omega, fun g1 _ => by simp at g1⟩
      | b :: t =>
        by_cases hb : b < lowOf a ∨ highOf a < b
        · have e2 : nx (a :: b :: t) = (65533, 1, false) := by rw [e, nxl, if_pos hb]
          rw [e2]
          refine ⟨rfl, by decide, fun k g1 g2 => by simp only at g2; omega, fun _ _ => ?_⟩
          show begL [a, b] = false
          simp only [begL, decide_eq_false_iff_not]; omega
        · have hb1 : begL [a, b] = true := by simp only [begL, decide_eq_true_eq]; omega
          match t with
          | [] =>
            have e2 : nx [a, b] = (65533, 2, false) := by rw [e, nxl, if_neg hb]; rfl
            rw [e2]
            refine ⟨rfl, by decide, fun k g1 g2 => ?_, fun g1 _ => by simp at g1⟩
            obtain rfl : k = 1 := by simp only at g2; omega
            exact hb1
          | c :: t =>
            by_cases hc : c < 128 ∨ 191 < c
            · have e2 : nx (a :: b :: c :: t) = (65533, 2, false) := by rw [e, nxl, if_neg hb, nxl, if_pos hc]
              rw [e2]
              refine ⟨rfl, by decide, fun k g1 g2 => ?_, fun _ _ => ?_⟩
              · obtain rfl : k = 1 := by simp only at g2; omega
                exact hb1
              · show begL [a, b, c] = false
                simp only [begL, decide_eq_false_iff_not]; omega
            · have hc1 : begL [a, b, c] = true := by simp only [begL, decide_eq_true_eq]; omega
              have hk : ∀ r k, 1 ≤ k → k < 3 → begL ((a :: b :: c :: r).take (k + 1)) = true := fun r k g1 g2 => by
                have : k = 1 ∨ k = 2 := by omega
                rcases this with rfl | rfl
                · exact hb1
                · exact hc1
              match t with
              | [] =>
                have e2 : nx [a, b, c] = (65533, 3, false) := by rw [e, nxl, if_neg hb, nxl, if_neg hc]; rfl
                rw [e2]
                exact ⟨rfl, by decide, fun k g1 g2 => hk [] k g1 g2, fun g1 _ => by simp at g1⟩
              | d :: t =>
                by_cases hd : d < 128 ∨ 191 < d
                · have e2 : nx (a :: b :: c :: d :: t) = (65533, 3, false) := by rw [e, nxl, if_neg hb, nxl, if_neg hc, nxl, if_pos hd]
                  rw [e2]
                  exact ⟨rfl, by decide, fun k g1 g2 => hk _ k g1 g2, fun _ g2 => by simp at g2⟩
                · rw [nx_w4 a b c d t h1 h2 (by omega) (by omega) (by omega) (by omega) (by omega) (by omega)] at hw; cases hw
end Go.Proofs.Ytnkbfpmaifgenaa.U
