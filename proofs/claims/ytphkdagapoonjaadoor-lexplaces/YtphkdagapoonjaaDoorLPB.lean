/- Plain: the model's own decoder and nx. (Stage 15.) -/
import Derived.Test.YtphkdagapoonjaaDoorLXG
import Derived.Test.YtphkdagapoonjaaDoorFO
import Derived.Lib.OthersKept
import Derived.Lib.ValidU
import Derived.Lib.RuneBytes
import Derived.Shelf.Unicode.DecodeSlow
namespace Go.Proofs.YtphkdagapoonjaaDoor.Lx
open Go.RowKit
open Go.Proofs.YtphkdagapoonjaaDoor.F (bn bn_length bn_append bn_inj bn_get byte_bd hid bn_extract)
open Go.Proofs.YtphkdagapoonjaaDoor.U (nx nxl lowOf highOf enc encs scal val Bytes)
set_option linter.unusedVariables false

theorem get_at (s : ByteArray) (p k : Nat) (h : p + k < s.size) : ((bn s).drop p)[k]? = some ((s.get! (p + k)).toNat : Int) := by
  rw [List.getElem?_drop]
  have h' : p + k < (bn s).length := by rw [bn_length]; exact h
  rw [List.getElem?_eq_getElem h']
  simp only [bn, List.getElem_map, Utf8W.get!_of_lt s _ h]
  rfl
theorem get_no (s : ByteArray) (p k : Nat) (h : ¬ p + k < s.size) : ((bn s).drop p)[k]? = none := by
  rw [List.getElem?_drop, List.getElem?_eq_none]
  rw [bn_length]; omega
theorem tail_form (l : List Int) : (l = [] ∨ ∃ b, l = [b]) ∨ (∃ b c, l = [b, c]) ∨ ∃ b c d r, l = b :: c :: d :: r := by
  rcases l with _ | ⟨b, _ | ⟨c, _ | ⟨d, r⟩⟩⟩
  · exact .inl (.inl rfl)
  · exact .inl (.inr ⟨_, rfl⟩)
  · exact .inr (.inl ⟨_, _, rfl⟩)
  · exact .inr (.inr ⟨_, _, _, _, rfl⟩)
/-- The decoder over a list of numbers. -/
def dcd (l : List Int) : Int × Nat :=
  let at' (k : Nat) : Int := l[k]?.getD 0
  let cont (k : Nat) : Bool := decide (k < l.length ∧ at' k / 64 = 2)
  if at' 0 < 128 then (at' 0, 1)
  else if decide (at' 0 / 32 = 6) && cont 1 then
    if 128 ≤ (at' 0 % 32) * 64 + at' 1 % 64 then ((at' 0 % 32) * 64 + at' 1 % 64, 2) else (65533, 1)
  else if decide (at' 0 / 16 = 14) && cont 1 && cont 2 then
    if 2048 ≤ (at' 0 % 16) * 4096 + (at' 1 % 64) * 64 + at' 2 % 64 ∧ scal ((at' 0 % 16) * 4096 + (at' 1 % 64) * 64 + at' 2 % 64) = true then ((at' 0 % 16) * 4096 + (at' 1 % 64) * 64 + at' 2 % 64, 3) else (65533, 1)
  else if decide (at' 0 / 8 = 30) && cont 1 && cont 2 && cont 3 then
    if 65536 ≤ (at' 0 % 8) * 262144 + (at' 1 % 64) * 4096 + (at' 2 % 64) * 64 + at' 3 % 64 ∧ scal ((at' 0 % 8) * 262144 + (at' 1 % 64) * 4096 + (at' 2 % 64) * 64 + at' 3 % 64) = true then ((at' 0 % 8) * 262144 + (at' 1 % 64) * 4096 + (at' 2 % 64) * 64 + at' 3 % 64, 4) else (65533, 1)
  else (65533, 1)
theorem valid_scal (n : Nat) : Utf8.valid (n : Int) = scal (n : Int) := by
  unfold Utf8.valid scal
  rw [Bool.eq_iff_iff]
  simp only [Bool.or_eq_true, Bool.and_eq_true, decide_eq_true_eq]
  omega
theorem dec_dcd (s : ByteArray) (p : Nat) (h : p < s.size) : ((Utf8.decode s p).1 : Int) = (dcd ((bn s).drop p)).1 ∧ (Utf8.decode s p).2 = (dcd ((bn s).drop p)).2 := by
  obtain ⟨G, hG⟩ : ∃ G : Nat → Nat, ∀ k, (s.get! (p + k)).toNat = G k := ⟨_, fun _ => rfl⟩
  have hl : ((bn s).drop p).length = s.size - p := by rw [List.length_drop, bn_length]
  have hv : ∀ k, p + k < s.size → ((bn s).drop p)[k]?.getD 0 = (G k : Int) := fun k hk => by rw [get_at s p k hk, hG]; rfl
  have hc : ∀ k, (decide (p + k < s.size) && G k / 64 == 2) = decide (k < ((bn s).drop p).length ∧ (((bn s).drop p)[k]?.getD 0) / 64 = 2) := by
    intro k
    rw [hl]
    by_cases hk : p + k < s.size
    · rw [hv k hk, Bool.eq_iff_iff]
      simp only [Bool.and_eq_true, decide_eq_true_eq, beq_iff_eq]
      omega
    · rw [Bool.eq_iff_iff]
      simp only [Bool.and_eq_true, decide_eq_true_eq, beq_iff_eq]
      omega
  have hD : Utf8.decode s p = (if G 0 < 128 then (G 0, 1)
      else if G 0 / 32 == 6 && (decide (p + 1 < s.size) && G 1 / 64 == 2) then
        if (G 0 % 32) * 64 + G 1 % 64 ≥ 128 then ((G 0 % 32) * 64 + G 1 % 64, 2) else (65533, 1)
      else if G 0 / 16 == 14 && (decide (p + 1 < s.size) && G 1 / 64 == 2) && (decide (p + 2 < s.size) && G 2 / 64 == 2) then
        if (G 0 % 16) * 4096 + (G 1 % 64) * 64 + G 2 % 64 ≥ 2048 && Utf8.valid (((G 0 % 16) * 4096 + (G 1 % 64) * 64 + G 2 % 64 : Nat) : Int) then ((G 0 % 16) * 4096 + (G 1 % 64) * 64 + G 2 % 64, 3) else (65533, 1)
      else if G 0 / 8 == 30 && (decide (p + 1 < s.size) && G 1 / 64 == 2) && (decide (p + 2 < s.size) && G 2 / 64 == 2) && (decide (p + 3 < s.size) && G 3 / 64 == 2) then
        if (G 0 % 8) * 262144 + (G 1 % 64) * 4096 + (G 2 % 64) * 64 + G 3 % 64 ≥ 65536 && Utf8.valid (((G 0 % 8) * 262144 + (G 1 % 64) * 4096 + (G 2 % 64) * 64 + G 3 % 64 : Nat) : Int) then ((G 0 % 8) * 262144 + (G 1 % 64) * 4096 + (G 2 % 64) * 64 + G 3 % 64, 4) else (65533, 1)
      else (65533, 1)) := by
    rw [← hG 0, ← hG 1, ← hG 2, ← hG 3]
    rfl
  rw [hD]
  simp only [hc]
  clear hD hc hG
  obtain ⟨l, hL⟩ : ∃ l, (bn s).drop p = l := ⟨_, rfl⟩
  rw [hL] at hv hl ⊢
  have h0 := hv 0 (by omega)
  unfold dcd
  simp only [h0]
  obtain ⟨A, hA⟩ : ∃ A, G 0 = A := ⟨_, rfl⟩
  rw [hA]
  clear hA h0
  have d1 : decide ((A : Int) / 32 = 6) = (A / 32 == 6) := by rw [Bool.eq_iff_iff]; simp only [decide_eq_true_eq, beq_iff_eq]; omega
  have d2 : decide ((A : Int) / 16 = 14) = (A / 16 == 14) := by rw [Bool.eq_iff_iff]; simp only [decide_eq_true_eq, beq_iff_eq]; omega
  have d3 : decide ((A : Int) / 8 = 30) = (A / 8 == 30) := by rw [Bool.eq_iff_iff]; simp only [decide_eq_true_eq, beq_iff_eq]; omega
  rw [d1, d2, d3]
  by_cases ha : A < 128
  · rw [if_pos ha, if_pos (by omega)]; exact ⟨rfl, rfl⟩
  rw [if_neg ha, if_neg (show ¬ (A : Int) < 128 by omega)]
  by_cases hb : (A / 32 == 6 && decide (1 < l.length ∧ l[1]?.getD 0 / 64 = 2)) = true
  · rw [if_pos hb, if_pos hb]
    simp only [Bool.and_eq_true, decide_eq_true_eq] at hb
    rw [hv 1 (by omega)]
    by_cases h2 : A % 32 * 64 + G 1 % 64 ≥ 128
    · rw [if_pos h2, if_pos (by omega)]; exact ⟨by simp only; omega, rfl⟩
    · rw [if_neg h2, if_neg (by omega)]; exact ⟨rfl, rfl⟩
  rw [if_neg hb, if_neg hb]
  by_cases hb2 : (A / 16 == 14 && decide (1 < l.length ∧ l[1]?.getD 0 / 64 = 2) && decide (2 < l.length ∧ l[2]?.getD 0 / 64 = 2)) = true
  · rw [if_pos hb2, if_pos hb2]
    simp only [Bool.and_eq_true, decide_eq_true_eq] at hb2
    rw [hv 1 (by omega), hv 2 (by omega)]
    have hcast : (A : Int) % 16 * 4096 + (G 1 : Int) % 64 * 64 + (G 2 : Int) % 64 = ((A % 16 * 4096 + G 1 % 64 * 64 + G 2 % 64 : Nat) : Int) := by omega
    rw [hcast]
    simp only [valid_scal]
    obtain ⟨X, hX⟩ : ∃ X, A % 16 * 4096 + G 1 % 64 * 64 + G 2 % 64 = X := ⟨_, rfl⟩
    rw [hX]
    by_cases h2 : 2048 ≤ (X : Int) ∧ scal (X : Int) = true
    · rw [if_pos h2, if_pos (by simp only [Bool.and_eq_true, decide_eq_true_eq]; exact ⟨by omega, h2.2⟩)]; exact ⟨rfl, rfl⟩
    · rw [if_neg h2, if_neg (by simp only [Bool.and_eq_true, decide_eq_true_eq]; intro h; exact h2 ⟨by omega, h.2⟩)]; exact ⟨rfl, rfl⟩
  rw [if_neg hb2, if_neg hb2]
  by_cases hb3 : (A / 8 == 30 && decide (1 < l.length ∧ l[1]?.getD 0 / 64 = 2) && decide (2 < l.length ∧ l[2]?.getD 0 / 64 = 2) && decide (3 < l.length ∧ l[3]?.getD 0 / 64 = 2)) = true
  · rw [if_pos hb3, if_pos hb3]
    simp only [Bool.and_eq_true, decide_eq_true_eq] at hb3
    rw [hv 1 (by omega), hv 2 (by omega), hv 3 (by omega)]
    have hcast : (A : Int) % 8 * 262144 + (G 1 : Int) % 64 * 4096 + (G 2 : Int) % 64 * 64 + (G 3 : Int) % 64 = ((A % 8 * 262144 + G 1 % 64 * 4096 + G 2 % 64 * 64 + G 3 % 64 : Nat) : Int) := by omega
    rw [hcast]
    simp only [valid_scal]
    obtain ⟨X, hX⟩ : ∃ X, A % 8 * 262144 + G 1 % 64 * 4096 + G 2 % 64 * 64 + G 3 % 64 = X := ⟨_, rfl⟩
    rw [hX]
    by_cases h2 : 65536 ≤ (X : Int) ∧ scal (X : Int) = true
    · rw [if_pos h2, if_pos (by simp only [Bool.and_eq_true, decide_eq_true_eq]; exact ⟨by omega, h2.2⟩)]; exact ⟨rfl, rfl⟩
    · rw [if_neg h2, if_neg (by simp only [Bool.and_eq_true, decide_eq_true_eq]; intro h; exact h2 ⟨by omega, h.2⟩)]; exact ⟨rfl, rfl⟩
  rw [if_neg hb3, if_neg hb3]
  exact ⟨rfl, rfl⟩
theorem scal_iff {c : Int} : scal c = true ↔ 0 ≤ c ∧ c ≤ 1114111 ∧ (c < 55296 ∨ 57343 < c) := by unfold scal; exact decide_eq_true_iff
set_option maxRecDepth 10000 in
theorem dcd_nx {a : Int} {t : List Int} (hb : Bytes (a :: t)) : dcd (a :: t) = if (nx (a :: t)).2.2 = true then ((nx (a :: t)).1, (nx (a :: t)).2.1) else (65533, 1) := by
  have ha := hb a (by simp)
  have ht : ∀ x ∈ t, 0 ≤ x ∧ x ≤ 255 := fun x hx => hb x (by simp [hx])
  by_cases h8 : a < 128
  · rw [nx, if_pos h8]
    unfold dcd
    simp [h8]
  have hc : ∀ b : Int, (0 ≤ b ∧ b ≤ 255) → (b / 64 = 2 ↔ 128 ≤ b ∧ b ≤ 191) := fun b hb => by omega
  by_cases hn : U.follow a = 0
  · rw [nx, if_neg h8, if_pos hn]
    simp only [Bool.false_eq_true, if_false]
    have hr : a ≤ 193 ∨ 245 ≤ a := by unfold U.follow at hn; (repeat' split at hn) <;> omega
    unfold dcd
    simp only [List.getElem?_cons_zero, Option.getD_some, if_neg h8]
    split
    · rename_i h
      simp only [Bool.and_eq_true, decide_eq_true_eq] at h
      rw [if_neg (by omega)]
    · split
      · rename_i h
        simp only [Bool.and_eq_true, decide_eq_true_eq] at h
        omega
      · split
        · rename_i h
          simp only [Bool.and_eq_true, decide_eq_true_eq] at h
          rw [if_neg (by rw [scal_iff]; omega)]
        · rfl
  have e : nx (a :: t) = nxl (U.follow a).toNat t 1 (if U.follow a = 1 then a % 32 else if U.follow a = 2 then a % 16 else a % 8) (lowOf a) (highOf a) := by rw [nx, if_neg h8, if_neg hn]
  rw [e]
  unfold dcd
  simp only [List.getElem?_cons_zero, Option.getD_some, if_neg h8, List.getElem?_cons_succ, List.length_cons]
  rcases U.follow_cases a with hf | ⟨hf, h1, h2⟩ | ⟨hf, h1, h2⟩ | ⟨hf, h1, h2⟩
  · exact absurd hf hn
  · have l1 : lowOf a = 128 := by unfold lowOf; rw [if_neg (by omega), if_neg (by omega)]
    have l2 : highOf a = 191 := by unfold highOf; rw [if_neg (by omega), if_neg (by omega)]
    have q1 : a / 32 = 6 := by omega
    have q2 : ¬ a / 16 = 14 := by omega
    have q3 : ¬ a / 8 = 30 := by omega
    rw [hf, l1, l2, show (if (1 : Int) = 1 then a % 32 else if (1 : Int) = 2 then a % 16 else a % 8) = a % 32 by simp, show (1 : Int).toNat = 1 from rfl]
    rcases t with _ | ⟨b, t⟩
    · simp [nxl, q1, q2, q3]
    · have hb1 := ht b (by simp)
      simp only [nxl, List.getElem?_cons_zero, Option.getD_some, q1, q2, q3, hc b hb1]
      by_cases hx : 128 ≤ b ∧ b ≤ 191
      · have hy : ¬ (b < 128 ∨ 191 < b) := by omega
        simp [hx, hy]
        omega
      · have hy : b < 128 ∨ 191 < b := by omega
        simp [hx, hy]
  · have q1 : ¬ a / 32 = 6 := by omega
    have q2 : a / 16 = 14 := by omega
    have q3 : ¬ a / 8 = 30 := by omega
    rw [hf]
    rcases t with _ | ⟨b, _ | ⟨c, t⟩⟩
    · simp [nxl, q1, q2, q3]
    · have hb1 := ht b (by simp)
      simp [nxl, q1, q2, q3]
      split <;> simp
    · have hb1 := ht b (by simp)
      have hc1 := ht c (by simp)
      have e2 : (2 : Int).toNat = 2 := rfl
      rw [e2, show (if (2 : Int) = 1 then a % 32 else if (2 : Int) = 2 then a % 16 else a % 8) = a % 16 by simp]
      simp only [nxl, List.getElem?_cons_zero, List.getElem?_cons_succ, Option.getD_some, q1, q2, q3, hc b hb1, hc c hc1, scal_iff]
      have z1 : lowOf a = 128 ∧ a ≠ 224 ∨ lowOf a = 160 ∧ a = 224 := by unfold lowOf; (repeat' split) <;> omega
      have z2 : highOf a = 191 ∧ a ≠ 237 ∨ highOf a = 159 ∧ a = 237 := by unfold highOf; (repeat' split) <;> omega
      have n1 : 1 < t.length + 1 + 1 := by omega
      have n2 : 2 < t.length + 1 + 1 + 1 := by omega
      by_cases hx : 128 ≤ b ∧ b ≤ 191
      · by_cases hy : 128 ≤ c ∧ c ≤ 191
        · by_cases hlo : b < lowOf a ∨ highOf a < b
          · simp [hx, hy, hlo]
            omega
          · have hyf : ¬ (c < 128 ∨ 191 < c) := by omega
            simp [hx, hy, hlo, hyf]
            rw [if_pos (by omega)]
            refine Prod.ext (by simp only; omega) rfl
        · have hy' : c < 128 ∨ 191 < c := by omega
          by_cases hlo : b < lowOf a ∨ highOf a < b
          · simp [hx, hy, hlo]
          · simp [hx, hy, hlo, hy']
      · have hlo : b < lowOf a ∨ highOf a < b := by omega
        simp [hx, hlo]
  · have q1 : ¬ a / 32 = 6 := by omega
    have q2 : ¬ a / 16 = 14 := by omega
    have q3 : a / 8 = 30 := by omega
    rw [hf]
    have e3 : (3 : Int).toNat = 3 := rfl
    rw [e3, show (if (3 : Int) = 1 then a % 32 else if (3 : Int) = 2 then a % 16 else a % 8) = a % 8 by simp]
    have z1 : lowOf a = 128 ∧ a ≠ 240 ∨ lowOf a = 144 ∧ a = 240 := by unfold lowOf; (repeat' split) <;> omega
    have z2 : highOf a = 191 ∧ a ≠ 244 ∨ highOf a = 143 ∧ a = 244 := by unfold highOf; (repeat' split) <;> omega
    rcases t with _ | ⟨b, _ | ⟨c, _ | ⟨d, t⟩⟩⟩
    · simp [nxl, q1, q2, q3]
    · have hb1 := ht b (by simp)
      simp [nxl, q1, q2, q3]
      split <;> simp
    · have hb1 := ht b (by simp)
      have hc1 := ht c (by simp)
      simp [nxl, q1, q2, q3]
      (repeat' split) <;> simp_all
    · have hb1 := ht b (by simp)
      have hc1 := ht c (by simp)
      have hd1 := ht d (by simp)
      simp only [nxl, List.getElem?_cons_zero, List.getElem?_cons_succ, Option.getD_some, q1, q2, q3, hc b hb1, hc c hc1, hc d hd1, scal_iff]
      by_cases hx : 128 ≤ b ∧ b ≤ 191
      · by_cases hy : 128 ≤ c ∧ c ≤ 191
        · by_cases hz : 128 ≤ d ∧ d ≤ 191
          · by_cases hlo : b < lowOf a ∨ highOf a < b
            · simp [hx, hy, hz, hlo]
              omega
            · have hyf : ¬ (c < 128 ∨ 191 < c) := by omega
              have hzf : ¬ (d < 128 ∨ 191 < d) := by omega
              simp [hx, hy, hz, hlo, hyf, hzf]
              rw [if_pos (by omega)]
              refine Prod.ext (by simp only; omega) rfl
          · have hz' : d < 128 ∨ 191 < d := by omega
            by_cases hlo : b < lowOf a ∨ highOf a < b
            · simp [hx, hy, hz, hlo]
            · have hyf : ¬ (c < 128 ∨ 191 < c) := by omega
              simp [hx, hy, hz, hlo, hz', hyf]
        · have hy' : c < 128 ∨ 191 < c := by omega
          by_cases hlo : b < lowOf a ∨ highOf a < b
          · simp [hx, hy, hlo]
          · simp [hx, hy, hlo, hy']
      · have hlo : b < lowOf a ∨ highOf a < b := by omega
        simp [hx, hlo]
/-- What the decoder gives of what stands at the place p, by what nx tells of it. -/
theorem dec_nx (s : ByteArray) (p : Nat) (h : p < s.size) : ((Utf8.decode s p).1 : Int) = (if (nx ((bn s).drop p)).2.2 = true then (nx ((bn s).drop p)).1 else 65533) ∧ (Utf8.decode s p).2 = (if (nx ((bn s).drop p)).2.2 = true then (nx ((bn s).drop p)).2.1 else 1) := by
  have hd := dec_dcd s p h
  have hB : Bytes ((bn s).drop p) := fun b hb => U.bn_bytes s b (List.mem_of_mem_drop hb)
  rcases hl : (bn s).drop p with _ | ⟨a, t⟩
  · rw [List.drop_eq_nil_iff, bn_length] at hl; omega
  rw [hl] at hd hB
  rw [dcd_nx hB] at hd
  rw [hd.1, hd.2]
  cases (nx (a :: t)).2.2 <;> simp
/-- What is no part of valid UTF-8 is told by the sign and one byte. -/
theorem nx_sign {l : List Int} (hb : Bytes l) (hl : l ≠ []) (h : (nx l).2.2 = true) : ¬ ((nx l).1 = 65533 ∧ (nx l).2.1 = 1) := by
  rcases U.nx_inv l hl hb with ⟨a, t, e, h0, h1, hn⟩ | ⟨a, b, t, e, h0, h1, h2, h3, hn⟩ | ⟨a, b, c, t, e, h0, h1, h2, h3, h4, h5, hn⟩ | ⟨a, b, c, d, t, e, h0, h1, h2, h3, h4, h5, h6, h7, hn⟩ | ⟨n, h0, h1, hn⟩
  · rw [hn]; simp only; omega
  · rw [hn]; simp
  · rw [hn]; simp
  · rw [hn]; simp
  · rw [hn] at h; cases h
theorem decL_nx (s : ByteArray) (p : Nat) (h : p < s.size) : Utf8.decode s p = Utf8.decode (s.extract p s.size) 0 := by
  have hh : 0 < (s.extract p s.size).size := by simp; omega
  have h1 := dec_dcd s p h
  have h2 := dec_dcd (s.extract p s.size) 0 hh
  rw [bn_extract, List.drop_zero] at h2
  have e1 : ((Utf8.decode s p).1 : Int) = (Utf8.decode (s.extract p s.size) 0).1 := by rw [h1.1, h2.1]
  exact Prod.ext (by omega) (by rw [h1.2, h2.2])
end Go.Proofs.YtphkdagapoonjaaDoor.Lx
