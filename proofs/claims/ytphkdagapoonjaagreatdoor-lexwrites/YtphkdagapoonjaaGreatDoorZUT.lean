/- Plain facts on what stands in bytes: what is written is read; what is cut; what is put together; Plain: how lines, words and texts in quotes are read, and written; Plain: texts in quotes are read as they were written; what is valid. -/
import Derived.Test.YtphkdagapoonjaaGreatDoorUC
import Derived.Test.YtphkdagapoonjaaGreatDoorUV
namespace Go.Proofs.YtphkdagapoonjaaGreatDoor.U
open Go.RowKit

theorem low_ge (c : Int) : 128 ≤ lowOf c := by unfold lowOf; (repeat' split) <;> omega
theorem high_le (c : Int) : highOf c ≤ 191 := by unfold highOf; (repeat' split) <;> omega

theorem nx_w1 (a : Int) (t : List Int) (h : a < 128) : nx (a :: t) = (a, 1, true) := by rw [nx, if_pos h]
theorem nx_w2 (a b : Int) (t : List Int) (h1 : 194 ≤ a) (h2 : a ≤ 223) (h3 : 128 ≤ b) (h4 : b ≤ 191) : nx (a :: b :: t) = ((a - 192) * 64 + (b - 128), 2, true) := by
  have hf : follow a = 1 := by unfold follow; rw [if_neg (by omega), if_neg (by omega), if_pos ⟨h1, h2⟩]
  have hl1 : lowOf a = 128 := by unfold lowOf; rw [if_neg (by omega), if_neg (by omega)]
  have hh1 : highOf a = 191 := by unfold highOf; rw [if_neg (by omega), if_neg (by omega)]
  have e : nx (a :: b :: t) = nxl 1 (b :: t) 1 (a % 32) 128 191 := by rw [nx, if_neg (by omega), hf, hl1, hh1]; rfl
  rw [e, nxl, if_neg (by omega), nxl]
  refine Prod.ext ?_ rfl
  simp only; omega
theorem nx_t2 (a : Int) (h1 : 194 ≤ a) (h2 : a ≤ 223) : nx [a] = (65533, 1, false) := by
  have hf : follow a = 1 := by unfold follow; rw [if_neg (by omega), if_neg (by omega), if_pos ⟨h1, h2⟩]
  rw [nx, if_neg (by omega), hf]; rfl
theorem nx_e3 (a : Int) (t : List Int) (h1 : 224 ≤ a) (h2 : a ≤ 239) : nx (a :: t) = nxl 2 t 1 (a % 16) (lowOf a) (highOf a) := by
  have hf : follow a = 2 := by unfold follow; rw [if_neg (by omega), if_pos ⟨h1, h2⟩]
  rw [nx, if_neg (by omega), hf]; rfl
theorem nx_w3 (a b c : Int) (t : List Int) (h1 : 224 ≤ a) (h2 : a ≤ 239) (h3 : lowOf a ≤ b) (h4 : b ≤ highOf a) (h5 : 128 ≤ c) (h6 : c ≤ 191) :
    nx (a :: b :: c :: t) = ((a - 224) * 4096 + (b - 128) * 64 + (c - 128), 3, true) := by
  have q1 := low_ge a
  have q2 := high_le a
  rw [nx_e3 a _ h1 h2, nxl, if_neg (by omega), nxl, if_neg (by omega), nxl]
  refine Prod.ext ?_ rfl
  simp only; omega
theorem nx_e4 (a : Int) (t : List Int) (h1 : 240 ≤ a) (h2 : a ≤ 244) : nx (a :: t) = nxl 3 t 1 (a % 8) (lowOf a) (highOf a) := by
  have hf : follow a = 3 := by unfold follow; rw [if_pos ⟨h1, h2⟩]
  rw [nx, if_neg (by omega), hf]; rfl
theorem nx_w4 (a b c d : Int) (t : List Int) (h1 : 240 ≤ a) (h2 : a ≤ 244) (h3 : lowOf a ≤ b) (h4 : b ≤ highOf a) (h5 : 128 ≤ c) (h6 : c ≤ 191) (h7 : 128 ≤ d) (h8 : d ≤ 191) :
    nx (a :: b :: c :: d :: t) = ((a - 240) * 262144 + (b - 128) * 4096 + (c - 128) * 64 + (d - 128), 4, true) := by
  have q1 := low_ge a
  have q2 := high_le a
  rw [nx_e4 a _ h1 h2, nxl, if_neg (by omega), nxl, if_neg (by omega), nxl, if_neg (by omega), nxl]
  refine Prod.ext ?_ rfl
  simp only; omega

/-- What is whole at the front stays there, whatever stands behind it; its bytes are its own; what is cut through is a sign. -/
theorem nx_whole (l : List Int) (h : l ≠ []) (hl : Bytes l) (hw : (nx l).2.2 = true) :
    (∀ r, nx (l ++ r) = nx l) ∧ enc (nx l).1 = l.take (nx l).2.1 ∧ (∀ n, (nx l).2.1 ≤ n → nx (l.take n) = nx l) ∧ (∀ n, 0 < n → n < (nx l).2.1 → nx (l.take n) = (65533, n, false)) := by
  rcases nx_inv l h hl with ⟨a, t, rfl, h0, h1, e⟩ | ⟨a, b, t, rfl, h1, h2, h3, h4, e⟩ | ⟨a, b, c, t, rfl, h1, h2, h3, h4, h5, h6, e⟩ | ⟨a, b, c, d, t, rfl, h1, h2, h3, h4, h5, h6, h7, h8, e⟩ | ⟨n, _, _, e⟩
  · rw [e]
    refine ⟨fun r => nx_w1 a _ h1, ?_, ?_, ?_⟩
    · simp only; unfold enc; rw [if_pos h1]; rfl
    · intro n hn
      obtain ⟨m, rfl⟩ : ∃ m, n = m + 1 := ⟨n - 1, by simp only at hn; omega⟩
      exact nx_w1 a _ h1
    · intro n h0 hn; simp only at hn; omega
  · rw [e]
    refine ⟨fun r => nx_w2 a b _ h1 h2 h3 h4, ?_, ?_, ?_⟩
    · simp only; unfold enc; rw [if_neg (by omega), if_pos (by omega)]
      have e1 : 192 + ((a - 192) * 64 + (b - 128)) / 64 = a := by omega
      have e2 : 128 + ((a - 192) * 64 + (b - 128)) % 64 = b := by omega
      rw [e1, e2]; rfl
    · intro n hn
      obtain ⟨m, rfl⟩ : ∃ m, n = m + 2 := ⟨n - 2, by simp only at hn; omega⟩
      exact nx_w2 a b _ h1 h2 h3 h4
    · intro n h0 hn
      obtain rfl : n = 1 := by simp only at hn; omega
      exact nx_t2 a h1 h2
  · have q1 := low_ge a
    have q2 := high_le a
    rw [e]
    refine ⟨fun r => nx_w3 a b c _ h1 h2 h3 h4 h5 h6, ?_, ?_, ?_⟩
    · have hlo : a = 224 → 160 ≤ b := fun ha => by subst ha; exact h3
      simp only; unfold enc; rw [if_neg (by omega), if_neg (by omega), if_pos (by omega)]
      have e1 : 224 + ((a - 224) * 4096 + (b - 128) * 64 + (c - 128)) / 4096 = a := by omega
      have e2 : 128 + ((a - 224) * 4096 + (b - 128) * 64 + (c - 128)) / 64 % 64 = b := by omega
      have e3 : 128 + ((a - 224) * 4096 + (b - 128) * 64 + (c - 128)) % 64 = c := by omega
      rw [e1, e2, e3]; rfl
    · intro n hn
      obtain ⟨m, rfl⟩ : ∃ m, n = m + 3 := ⟨n - 3, by simp only at hn; omega⟩
      exact nx_w3 a b c _ h1 h2 h3 h4 h5 h6
    · intro n h0 hn
      have : n = 1 ∨ n = 2 := by simp only at hn; omega
      rcases this with rfl | rfl
      · show nx [a] = _
        rw [nx_e3 a _ h1 h2]; rfl
      · show nx [a, b] = _
        rw [nx_e3 a _ h1 h2, nxl, if_neg (by omega)]; rfl
  · have q1 := low_ge a
    have q2 := high_le a
    rw [e]
    refine ⟨fun r => nx_w4 a b c d _ h1 h2 h3 h4 h5 h6 h7 h8, ?_, ?_, ?_⟩
    · have hlo : a = 240 → 144 ≤ b := fun ha => by subst ha; exact h3
      simp only; unfold enc; rw [if_neg (by omega), if_neg (by omega), if_neg (by omega)]
      have e1 : 240 + ((a - 240) * 262144 + (b - 128) * 4096 + (c - 128) * 64 + (d - 128)) / 262144 = a := by omega
      have e2 : 128 + ((a - 240) * 262144 + (b - 128) * 4096 + (c - 128) * 64 + (d - 128)) / 4096 % 64 = b := by omega
      have e3 : 128 + ((a - 240) * 262144 + (b - 128) * 4096 + (c - 128) * 64 + (d - 128)) / 64 % 64 = c := by omega
      have e4 : 128 + ((a - 240) * 262144 + (b - 128) * 4096 + (c - 128) * 64 + (d - 128)) % 64 = d := by omega
      rw [e1, e2, e3, e4]; rfl
    · intro n hn
      obtain ⟨m, rfl⟩ : ∃ m, n = m + 4 := ⟨n - 4, by simp only at hn; omega⟩
      exact nx_w4 a b c d _ h1 h2 h3 h4 h5 h6 h7 h8
    · intro n h0 hn
      have : n = 1 ∨ n = 2 ∨ n = 3 := by simp only at hn; omega
      rcases this with rfl | rfl | rfl
      · show nx [a] = _
        rw [nx_e4 a _ h1 h2]; rfl
      · show nx [a, b] = _
        rw [nx_e4 a _ h1 h2, nxl, if_neg (by omega)]; rfl
      · show nx [a, b, c] = _
        rw [nx_e4 a _ h1 h2, nxl, if_neg (by omega), nxl, if_neg (by omega)]; rfl
  · rw [e] at hw; simp at hw

/-- What is written is what stands there. -/
theorem nx_enc (c : Int) (h : scal c = true) (t : List Int) : nx (enc c ++ t) = (c, (enc c).length, true) := by
  unfold scal at h
  rw [decide_eq_true_eq] at h
  unfold enc
  by_cases q1 : c < 128
  · rw [if_pos q1]; exact nx_w1 c t q1
  · rw [if_neg q1]
    by_cases q2 : c < 2048
    · rw [if_pos q2]
      show nx ((192 + c / 64) :: (128 + c % 64) :: t) = (c, 2, true)
      rw [nx_w2 _ _ _ (by omega) (by omega) (by omega) (by omega)]
      refine Prod.ext ?_ rfl
      simp only; omega
    · rw [if_neg q2]
      by_cases q3 : c < 65536
      · rw [if_pos q3]
        show nx ((224 + c / 4096) :: (128 + c / 64 % 64) :: (128 + c % 64) :: t) = (c, 3, true)
        rw [nx_w3 _ _ _ _ (by omega) (by omega) ?_ ?_ (by omega) (by omega)]
        · refine Prod.ext ?_ rfl
          simp only; omega
        · unfold lowOf
          by_cases g : 224 + c / 4096 = 224
          · rw [if_pos g]; omega
          · rw [if_neg g, if_neg (by omega)]; omega
        · unfold highOf
          by_cases g : 224 + c / 4096 = 237
          · rw [if_pos g]; omega
          · rw [if_neg g, if_neg (by omega)]; omega
      · rw [if_neg q3]
        show nx ((240 + c / 262144) :: (128 + c / 4096 % 64) :: (128 + c / 64 % 64) :: (128 + c % 64) :: t) = (c, 4, true)
        rw [nx_w4 _ _ _ _ _ (by omega) (by omega) ?_ ?_ (by omega) (by omega) (by omega) (by omega)]
        · refine Prod.ext ?_ rfl
          simp only; omega
        · unfold lowOf
          by_cases g : 240 + c / 262144 = 240
          · rw [if_neg (by omega), if_pos g]; omega
          · rw [if_neg (by omega), if_neg g]; omega
        · unfold highOf
          by_cases g : 240 + c / 262144 = 244
          · rw [if_neg (by omega), if_pos g]; omega
          · rw [if_neg (by omega), if_neg g]; omega

theorem dec_cons (l : List Int) (h : l ≠ []) (hl : Bytes l) : dec l = (nx l).1 :: dec (l.drop (nx l).2.1) := by
  unfold dec
  rw [scl_cons l h, List.map_cons, toSc_nx l hl]
theorem val_cons (l : List Int) (h : l ≠ []) (hl : Bytes l) : val l = ((nx l).2.2 && val (l.drop (nx l).2.1)) := by
  unfold val
  rw [scl_cons l h, List.all_cons, toSc_nx l hl]
theorem dec_nil : dec [] = [] := rfl
theorem val_nil : val [] = true := rfl

theorem dec_scal : ∀ (n : Nat) (l : List Int), l.length ≤ n → Bytes l → (dec l).all scal = true
  | 0, l, h, _ => by obtain rfl := List.length_eq_zero_iff.1 (show l.length = 0 by omega); rfl
  | n + 1, l, h, hl => by
    by_cases hne : l = []
    · subst hne; rfl
    · have hn := nx_n l hne
      rw [dec_cons l hne hl, List.all_cons, nx_scal l hne hl, dec_scal n _ (by rw [List.length_drop]; omega) (hl.drop _)]; rfl
theorem dec_len : ∀ (n : Nat) (l : List Int), l.length ≤ n → Bytes l → (dec l).length ≤ l.length
  | 0, l, h, _ => by obtain rfl := List.length_eq_zero_iff.1 (show l.length = 0 by omega); exact Nat.le_refl _
  | n + 1, l, h, hl => by
    by_cases hne : l = []
    · subst hne; exact Nat.le_refl _
    · have hn := nx_n l hne
      have := dec_len n (l.drop (nx l).2.1) (by rw [List.length_drop]; omega) (hl.drop _)
      rw [List.length_drop] at this
      rw [dec_cons l hne hl, List.length_cons]; omega

theorem dec_app : ∀ (n : Nat) (l r : List Int), l.length ≤ n → Bytes l → Bytes r → val l = true → dec (l ++ r) = dec l ++ dec r
  | 0, l, r, h, _, _, _ => by obtain rfl := List.length_eq_zero_iff.1 (show l.length = 0 by omega); rfl
  | n + 1, l, r, h, hl, hr, hv => by
    by_cases hne : l = []
    · subst hne; rfl
    · have hn := nx_n l hne
      rw [val_cons l hne hl, Bool.and_eq_true] at hv
      have hlr : Bytes (l ++ r) := fun b hb => (List.mem_append.1 hb).elim (hl b) (hr b)
      have hw := (nx_whole l hne hl hv.1).1 r
      rw [dec_cons (l ++ r) (by simp [hne]) hlr, hw, List.drop_append_of_le_length hn.2, dec_app n (l.drop (nx l).2.1) r (by rw [List.length_drop]; omega) (hl.drop _) hr hv.2, dec_cons l hne hl]
      rfl

theorem back : ∀ (zs : List Int), zs.all scal = true → dec (encs zs) = zs ∧ val (encs zs) = true
  | [], _ => ⟨rfl, rfl⟩
  | c :: t, h => by
    rw [List.all_cons, Bool.and_eq_true] at h
    have ih := back t h.2
    have e : encs (c :: t) = enc c ++ encs t := by simp [encs]
    have hx := nx_enc c h.1 (encs t)
    have hlen := enc_len c
    have hne : enc c ++ encs t ≠ [] := fun hh => by have := congrArg List.length hh; rw [List.length_append, List.length_nil] at this; omega
    have hb : Bytes (enc c ++ encs t) := fun b hb => (List.mem_append.1 hb).elim (enc_bytes c (by have := h.1; unfold scal at this; rw [decide_eq_true_eq] at this; omega) (by have := h.1; unfold scal at this; rw [decide_eq_true_eq] at this; omega) b) (encs_bytes t (fun c hc => by have := List.all_eq_true.1 h.2 c hc; unfold scal at this; rw [decide_eq_true_eq] at this; omega) b)
    have hd : (enc c ++ encs t).drop (enc c).length = encs t := by simp
    rw [e, dec_cons _ hne hb, val_cons _ hne hb, hx]
    simp only [hd, ih.1, ih.2]
    exact ⟨trivial, rfl⟩

theorem clean_of_val : ∀ (n : Nat) (l : List Int), l.length ≤ n → Bytes l → val l = true → encs (dec l) = l
  | 0, l, h, _, _ => by obtain rfl := List.length_eq_zero_iff.1 (show l.length = 0 by omega); rfl
  | n + 1, l, h, hl, hv => by
    by_cases hne : l = []
    · subst hne; rfl
    · have hn := nx_n l hne
      rw [val_cons l hne hl, Bool.and_eq_true] at hv
      have hw := (nx_whole l hne hl hv.1).2.1
      have ih := clean_of_val n (l.drop (nx l).2.1) (by rw [List.length_drop]; omega) (hl.drop _) hv.2
      rw [dec_cons l hne hl]
      show enc _ ++ encs _ = l
      rw [hw, ih, List.take_append_drop]

/-- What becomes of a valid text that is cut. -/
theorem cut : ∀ (k : Nat) (l : List Int) (n : Nat), l.length ≤ k → Bytes l → val l = true →
    (dec (l.take n)).length ≤ (dec l).length ∧ ∀ i, i < (dec (l.take n)).length → (dec (l.take n))[i]?.getD 0 = (dec l)[i]?.getD 0 ∨ (i + 1 = (dec (l.take n)).length ∧ (dec (l.take n))[i]?.getD 0 = 65533 ∧ val (l.take n) = false)
  | 0, l, n, h, _, _ => by
    obtain rfl := List.length_eq_zero_iff.1 (show l.length = 0 by omega)
    rw [List.take_nil]
    exact ⟨Nat.le_refl _, fun i hi => .inl rfl⟩
  | k + 1, l, n, h, hl, hv => by
    by_cases hne : l = []
    · subst hne; rw [List.take_nil]; exact ⟨Nat.le_refl _, fun i hi => .inl rfl⟩
    by_cases h0 : n = 0
    · subst h0
      rw [List.take_zero, dec_nil]
      exact ⟨by simp, fun i hi => by simp at hi⟩
    · have hn := nx_n l hne
      rw [val_cons l hne hl, Bool.and_eq_true] at hv
      obtain ⟨_, _, w3, w4⟩ := nx_whole l hne hl hv.1
      have htne : l.take n ≠ [] := fun hh => by have := congrArg List.length hh; rw [List.length_take, List.length_nil] at this; omega
      by_cases hlt : (nx l).2.1 ≤ n
      · have e := w3 n hlt
        have ih := cut k (l.drop (nx l).2.1) (n - (nx l).2.1) (by rw [List.length_drop]; omega) (hl.drop _) hv.2
        have ed : (l.take n).drop (nx l).2.1 = (l.drop (nx l).2.1).take (n - (nx l).2.1) := List.drop_take
        rw [dec_cons _ htne (hl.take n), dec_cons l hne hl, val_cons _ htne (hl.take n), e, ed, hv.1]
        refine ⟨by simp only [List.length_cons]; omega, fun i hi => ?_⟩
        match i with
        | 0 => exact .inl rfl
        | i + 1 =>
          simp only [List.length_cons] at hi
          rcases ih.2 i (by omega) with q | ⟨q1, q2, q3⟩
          · exact .inl (by simpa using q)
          · exact .inr ⟨by simp only [List.length_cons]; omega, by simpa using q2, by rw [q3]; rfl⟩
      · have e := w4 n (by omega) (by omega)
        have ed : (l.take n).drop n = [] := by rw [List.drop_eq_nil_iff, List.length_take]; omega
        rw [dec_cons _ htne (hl.take n), dec_cons l hne hl, val_cons _ htne (hl.take n), e]
        simp only [ed, dec_nil]
        refine ⟨by simp, fun i hi => .inr ⟨?_, ?_, rfl⟩⟩
        · simp at hi; simp; omega
        · simp at hi; subst hi; rfl
end Go.Proofs.YtphkdagapoonjaaGreatDoor.U
namespace Go.Proofs.YtphkdagapoonjaaGreatDoor.Lx
open Go.Proofs.YtphkdagapoonjaaGreatDoor.U (nx enc encs scal val Bytes)
set_option linter.unusedVariables false

/-- A token: its kind, what it says, its line, its place. -/
structure Tk where
  k : Nat
  x : List Int
  n : Nat
  a : Nat
/-- What ends a word. -/
def en (c : Int) : Bool := decide (c = 32 ∨ c = 9 ∨ c = 44 ∨ c = 33 ∨ c = 34 ∨ c = 35)
def dg (c : Int) : Int := if 48 ≤ c ∧ c ≤ 57 then c - 48 else if 97 ≤ c ∧ c ≤ 102 then c - 87 else if 65 ≤ c ∧ c ≤ 70 then c - 55 else -1
def isd (c : Int) : Bool := decide (0 ≤ dg c)
def hv (l : List Int) : Int := l.foldl (fun n c => 16 * n + dg c) 0
/-- The digits behind a backslash, a u and a bracket. -/
def ds (l : List Int) : List Int := ((l.drop 3).take 6).takeWhile isd
/-- A backslash and what stands behind it: what they say, and how many bytes they have; 0: they do not stand as they must. -/
def es (l : List Int) : List Int × Nat :=
  if l.getD 1 0 = 34 ∨ l.getD 1 0 = 92 then ([l.getD 1 0], 2)
  else if l.getD 1 0 = 117 ∧ l.getD 2 0 = 123 ∧ ds l ≠ [] ∧ l.getD (3 + (ds l).length) 0 = 125 ∧ scal (hv (ds l)) = true then (enc (hv (ds l)), (ds l).length + 4)
  else ([], 0)
/-- A text in quotes, from the byte i on: what it says, how many bytes it has; 0, and where its fault is. -/
def tx : Nat → List Int → List Int → Nat → List Int × Nat × Nat
  | 0, _, _, _ => ([], 0, 0)
  | _ + 1, _, [], _ => ([], 0, 0)
  | f + 1, t, c :: r, i =>
    if c = 34 then (t, i + 1, 0)
    else if c ≠ 92 then tx f (t ++ [c]) r (i + 1)
    else if (es (c :: r)).2 = 0 then ([], 0, i)
    else tx f (t ++ (es (c :: r)).1) (r.drop ((es (c :: r)).2 - 1)) (i + (es (c :: r)).2)
/-- The first byte that is no part of valid UTF-8. -/
def bdF : Nat → List Int → Nat → Option Nat
  | 0, _, _ => none
  | f + 1, l, k => if l = [] then none else if (nx l).2.2 = true then bdF f (l.drop (nx l).2.1) (k + (nx l).2.1) else some k
def bd (l : List Int) : Option Nat := bdF l.length l 0
def pb (l : List Int) : Option Nat := l.findIdx? (fun c => decide (c < 32 ∧ c ≠ 9 ∨ c = 127))
def nen (c : Int) : Bool := !en c
/-- The tokens of a line, from the byte i on. -/
def lnF : Nat → List Tk → List Int → Nat → Nat → List Tk × Option Nat
  | 0, o, _, _, _ => (o, none)
  | _ + 1, o, [], _, _ => (o, none)
  | f + 1, o, c :: r, i, n =>
    if c = 35 then (o, none)
    else if c = 32 ∨ c = 9 then lnF f o r (i + 1) n
    else if c = 44 then lnF f (o ++ [⟨3, [], n, i⟩]) r (i + 1) n
    else if c = 33 then lnF f (o ++ [⟨4, [], n, i⟩]) r (i + 1) n
    else if c = 34 then
      if (tx (r.length + 1) [] r 1).2.1 = 0 then ([], some (i + (tx (r.length + 1) [] r 1).2.2))
      else lnF f (o ++ [⟨2, (tx (r.length + 1) [] r 1).1, n, i⟩]) (r.drop ((tx (r.length + 1) [] r 1).2.1 - 1)) (i + (tx (r.length + 1) [] r 1).2.1) n
    else lnF f (o ++ [⟨1, (c :: r).takeWhile nen, n, i⟩]) ((c :: r).dropWhile nen) (i + ((c :: r).takeWhile nen).length) n
/-- A line: its tokens, and its fault. -/
def line (l : List Int) (n : Nat) : List Tk × Nat × Nat × Nat :=
  match bd l with
  | some k => ([], 152, n, k)
  | none => match pb l with
    | some k => ([], 150, n, k)
    | none => match lnF l.length [] l 0 n with
      | (_, some k) => ([], 151, n, k)
      | (o, none) => (if o.length = 0 then [] else o ++ [⟨5, [], n, l.length⟩], 0, 0, 0)
def no10 (c : Int) : Bool := decide (c ≠ 10)
/-- A 13 just ahead of a 10 counts for nothing. -/
def strip (l : List Int) : List Int := if l.getLast? = some 13 then l.dropLast else l
/-- The first line of a text. -/
def fl (s : List Int) : List Int := if s.dropWhile no10 = [] then s else strip (s.takeWhile no10)
def lexF : Nat → List Tk → List Int → Nat → List Tk × Nat × Nat × Nat
  | 0, o, _, _ => (o, 0, 0, 0)
  | f + 1, o, s, n =>
    if s = [] then (o, 0, 0, 0)
    else if (line (fl s) n).2.1 ≠ 0 then ([], (line (fl s) n).2)
    else lexF f (o ++ (line (fl s) n).1) ((s.dropWhile no10).drop 1) (n + 1)
/-- What Lex answers. -/
def lex (s : List Int) : List Tk × Nat × Nat × Nat := if 65536 < s.length then ([], 4, 0, 0) else lexF s.length [] s 1
/-- How a byte stands in quotes. -/
def hd (n : Int) : Int := if n < 10 then n + 48 else n + 87
def qb (c : Int) : List Int := if c = 34 ∨ c = 92 then [92, c] else if c < 16 then [92, 117, 123, hd c, 125] else if c < 32 ∨ c = 127 then [92, 117, 123, hd (c / 16), hd (c % 16), 125] else [c]
def qt (l : List Int) : List Int := 34 :: (l.flatMap qb ++ [34])
/-- What Quote answers. -/
def quote (l : List Int) : List Int × Nat := if val l = false then ([], 152) else if 65536 < l.length then ([], 4) else (qt l, 0)
/-- Is it a word? -/
def wd (l : List Int) : Prop := l ≠ [] ∧ val l = true ∧ ∀ c ∈ l, en c = false ∧ 32 < c ∧ c ≠ 127
/-- A token, as it is written. -/
def tw (t : Tk) : List Int := if t.k = 1 then t.x else if t.k = 2 then qt t.x else if t.k = 3 then [44] else if t.k = 4 then [33] else [10]
def sep (last k : Nat) : List Int := if last ≠ 5 ∧ last ≠ 4 ∧ k ≠ 3 ∧ k ≠ 5 then [32] else []
/-- The tokens' text, behind a token of kind 'last'. -/
def wr : Nat → List Tk → List Int
  | _, [] => []
  | last, t :: r => sep last t.k ++ tw t ++ wr t.k r
/-- May these be written, behind a token of kind 'last'? -/
def ok : Nat → List Tk → Prop
  | last, [] => last = 5
  | last, t :: r => (t.k = 1 ∧ wd t.x ∨ t.k = 2 ∧ val t.x = true ∨ (t.k = 3 ∨ t.k = 4 ∨ t.k = 5 ∧ last ≠ 5) ∧ t.x = []) ∧ ok t.k r
end Go.Proofs.YtphkdagapoonjaaGreatDoor.Lx
namespace Go.Proofs.YtphkdagapoonjaaGreatDoor.Lx
open Go.Proofs.YtphkdagapoonjaaGreatDoor.U (nx enc encs scal val Bytes)
set_option linter.unusedVariables false

/-! ### Digits, backslashes -/
theorem hd_dg : ∀ n : Fin 16, dg (hd n.val) = n.val ∧ isd (hd n.val) = true := by decide
theorem hd_is {n : Int} (h0 : 0 ≤ n) (h1 : n < 16) : dg (hd n) = n ∧ isd (hd n) = true := by
  have := hd_dg ⟨n.toNat, by omega⟩
  simp only at this
  rw [Int.toNat_of_nonneg h0] at this
  exact this
theorem isd_end : isd 125 = false := by decide
theorem es_sign {c : Int} (h : c = 34 ∨ c = 92) (r : List Int) : es (92 :: c :: r) = ([c], 2) := by
  unfold es
  rw [show (92 :: c :: r).getD 1 0 = c from rfl, if_pos h]
theorem es_one {c : Int} (h0 : 0 ≤ c) (h1 : c < 16) (r : List Int) : es (92 :: 117 :: 123 :: hd c :: 125 :: r) = ([c], 5) := by
  have hh := hd_is h0 h1
  have hds : ds (92 :: 117 :: 123 :: hd c :: 125 :: r) = [hd c] := by
    unfold ds
    show ((hd c :: 125 :: r).take 6).takeWhile isd = _
    rw [List.take_succ_cons, List.take_succ_cons, List.takeWhile_cons_of_pos hh.2, List.takeWhile_cons_of_neg (by rw [isd_end]; simp)]
  have hv1 : hv [hd c] = c := by unfold hv; simp [hh.1]
  have hsc : scal c = true := by unfold scal; simp; omega
  unfold es
  rw [hds, hv1, show (92 :: 117 :: 123 :: hd c :: 125 :: r).getD 1 0 = 117 from rfl, if_neg (by decide), if_pos ⟨rfl, rfl, by simp, rfl, hsc⟩, show enc c = [c] by unfold enc; rw [if_pos (by omega)]]
  rfl
theorem es_two {c : Int} (h0 : 0 ≤ c) (h1 : c < 128) (r : List Int) : es (92 :: 117 :: 123 :: hd (c / 16) :: hd (c % 16) :: 125 :: r) = ([c], 6) := by
  have ha := hd_is (n := c / 16) (by omega) (by omega)
  have hb := hd_is (n := c % 16) (by omega) (by omega)
  have hds : ds (92 :: 117 :: 123 :: hd (c / 16) :: hd (c % 16) :: 125 :: r) = [hd (c / 16), hd (c % 16)] := by
    unfold ds
    show ((hd (c / 16) :: hd (c % 16) :: 125 :: r).take 6).takeWhile isd = _
    rw [List.take_succ_cons, List.take_succ_cons, List.take_succ_cons, List.takeWhile_cons_of_pos ha.2, List.takeWhile_cons_of_pos hb.2, List.takeWhile_cons_of_neg (by rw [isd_end]; simp)]
  have hv1 : hv [hd (c / 16), hd (c % 16)] = c := by unfold hv; simp [ha.1, hb.1]; omega
  have hsc : scal c = true := by unfold scal; simp; omega
  unfold es
  rw [hds, hv1, show (92 :: 117 :: 123 :: hd (c / 16) :: hd (c % 16) :: 125 :: r).getD 1 0 = 117 from rfl, if_neg (by decide), if_pos ⟨rfl, rfl, by simp, rfl, hsc⟩, show enc c = [c] by unfold enc; rw [if_pos (by omega)]]
  rfl
/-- What a byte is written as, one step of a text's reading takes. -/
theorem tx_qb {c : Int} (h0 : 0 ≤ c) (f : Nat) (t r : List Int) (i : Nat) : tx (f + 1) t (qb c ++ r) i = tx f (t ++ [c]) r (i + (qb c).length) := by
  unfold qb
  by_cases h1 : c = 34 ∨ c = 92
  · rw [if_pos h1]
    show tx (f + 1) t (92 :: c :: r) i = _
    rw [tx, if_neg (by decide), if_neg (by decide), es_sign h1, if_neg (by simp)]
    rfl
  · rw [if_neg h1]
    by_cases h2 : c < 16
    · rw [if_pos h2]
      show tx (f + 1) t (92 :: 117 :: 123 :: hd c :: 125 :: r) i = _
      rw [tx, if_neg (by decide), if_neg (by decide), es_one h0 h2, if_neg (by simp)]
      rfl
    · rw [if_neg h2]
      by_cases h3 : c < 32 ∨ c = 127
      · rw [if_pos h3]
        show tx (f + 1) t (92 :: 117 :: 123 :: hd (c / 16) :: hd (c % 16) :: 125 :: r) i = _
        rw [tx, if_neg (by decide), if_neg (by decide), es_two h0 (by omega), if_neg (by simp)]
        rfl
      · rw [if_neg h3]
        show tx (f + 1) t (c :: r) i = _
        rw [tx, if_neg (by omega), if_pos (by omega)]
        rfl
theorem qb_pos (c : Int) : 1 ≤ (qb c).length := by unfold qb; (repeat' split) <;> simp
theorem qb_len (c : Int) : (qb c).length ≤ 6 := by unfold qb; (repeat' split) <;> simp
theorem tx_qt : ∀ (x : List Int) (f : Nat) (t r : List Int) (i : Nat), Bytes x → x.length < f → tx f t (x.flatMap qb ++ 34 :: r) i = (t ++ x, i + (x.flatMap qb).length + 1, 0)
  | [], f, t, r, i, _, hf => by
    obtain ⟨f, rfl⟩ : ∃ g, f = g + 1 := ⟨f - 1, by omega⟩
    show tx (f + 1) t (34 :: r) i = _
    rw [tx, if_pos rfl]; simp
  | c :: x, f, t, r, i, hb, hf => by
    obtain ⟨f, rfl⟩ : ∃ g, f = g + 1 := ⟨f - 1, by omega⟩
    rw [List.flatMap_cons, List.append_assoc, tx_qb (hb c (by simp)).1, tx_qt x f (t ++ [c]) r _ (fun b hb' => hb b (by simp [hb'])) (by simpa using hf)]
    simp only [List.append_assoc, List.cons_append, List.nil_append, List.length_append, Prod.mk.injEq, true_and, and_true]
    omega
/-! ### What is valid -/
/-- Made of code points. -/
def EV (l : List Int) : Prop := ∃ zs : List Int, zs.all scal = true ∧ l = encs zs
theorem EV.nil : EV [] := ⟨[], rfl, rfl⟩
theorem encs_app (a b : List Int) : encs (a ++ b) = encs a ++ encs b := by unfold encs; exact List.flatMap_append
theorem EV.app {a b : List Int} : EV a → EV b → EV (a ++ b) := by
  rintro ⟨x, h1, rfl⟩ ⟨y, h2, rfl⟩
  exact ⟨x ++ y, by rw [List.all_append, h1, h2]; rfl, (encs_app x y).symm⟩
theorem EV.val {l : List Int} : EV l → val l = true := by
  rintro ⟨zs, h, rfl⟩
  exact (U.back zs h).2
theorem EV.of {l : List Int} (hb : Bytes l) (h : U.val l = true) : EV l := ⟨U.dec l, U.dec_scal l.length l (Nat.le_refl _) hb, (U.clean_of_val l.length l (Nat.le_refl _) hb h).symm⟩
theorem EV.low : ∀ {l : List Int}, (∀ c ∈ l, 0 ≤ c ∧ c < 128) → EV l
  | [], _ => EV.nil
  | c :: l, h => by
    have hc := h c (by simp)
    have : EV [c] := ⟨[c], by simp [scal]; omega, by unfold encs enc; simp; omega⟩
    exact this.app (EV.low (l := l) (fun x hx => h x (by simp [hx])))
theorem EV.enc {c : Int} (h : scal c = true) : EV (enc c) := ⟨[c], by simp [h], by unfold encs; simp⟩
theorem hd_low {n : Int} (h0 : 0 ≤ n) (h1 : n < 16) : 0 ≤ hd n ∧ hd n < 128 := by unfold hd; split <;> omega
theorem qb_low {c : Int} (h0 : 0 ≤ c) (h1 : c < 128) : ∀ d ∈ qb c, 32 ≤ d ∧ d < 127 := by
  have a := hd_is (n := c % 16) (by omega) (by omega)
  intro d hd'
  unfold qb at hd'
  have e1 : 48 ≤ hd (c / 16) ∧ hd (c / 16) < 127 := by unfold hd; split <;> omega
  have e2 : 48 ≤ hd (c % 16) ∧ hd (c % 16) < 127 := by unfold hd; split <;> omega
  have e3 : c < 16 → 48 ≤ hd c ∧ hd c < 127 := fun h => by unfold hd; split <;> omega
  (repeat' split at hd') <;> simp at hd' <;> omega
theorem qb_high {c : Int} (h : 128 ≤ c) : qb c = [c] := by unfold qb; rw [if_neg (by omega), if_neg (by omega), if_neg (by omega)]
theorem enc_high {c : Int} (h0 : 128 ≤ c) : ∀ d ∈ enc c, 128 ≤ d := by
  intro d hd'
  unfold enc at hd'
  (repeat' split at hd') <;> simp at hd' <;> omega
theorem flat_high : ∀ {l : List Int}, (∀ d ∈ l, 128 ≤ d) → l.flatMap qb = l
  | [], _ => rfl
  | c :: l, h => by rw [List.flatMap_cons, qb_high (h c (by simp)), flat_high (l := l) (fun d hd => h d (by simp [hd]))]; rfl
theorem EV.qbs : ∀ {zs : List Int}, zs.all scal = true → EV ((encs zs).flatMap qb)
  | [], _ => EV.nil
  | c :: zs, h => by
    simp only [List.all_cons, Bool.and_eq_true] at h
    have e : encs (c :: zs) = U.enc c ++ encs zs := by unfold encs; rw [List.flatMap_cons]
    rw [e, List.flatMap_append]
    refine EV.app ?_ (EV.qbs h.2)
    by_cases hc : c < 128
    · have h0 : 0 ≤ c := by have := h.1; unfold scal at this; simp at this; omega
      rw [show U.enc c = [c] by unfold U.enc; rw [if_pos hc], List.flatMap_cons, List.flatMap_nil, List.append_nil]
      exact EV.low (fun d hd => by have := qb_low h0 hc d hd; omega)
    · rw [flat_high (enc_high (by omega))]
      exact EV.enc h.1
theorem EV.qt {x : List Int} (h : EV x) : EV (qt x) := by
  obtain ⟨zs, h1, rfl⟩ := h
  unfold Lx.qt
  show EV ([34] ++ _)
  exact (EV.low (l := [34]) (by simp)).app ((EV.qbs h1).app (EV.low (l := [34]) (by simp)))
theorem bdF_none : ∀ (f : Nat) (l : List Int) (k : Nat), l.length ≤ f → Bytes l → (bdF f l k = none ↔ val l = true)
  | 0, l, k, h, _ => by
    have : l = [] := List.length_eq_zero_iff.1 (by omega)
    subst this
    simp [bdF, U.val_nil]
  | f + 1, l, k, h, hb => by
    rw [bdF]
    by_cases hl : l = []
    · subst hl; simp [U.val_nil]
    · rw [if_neg hl, U.val_cons l hl hb]
      have hn := U.nx_n l hl
      by_cases hw : (nx l).2.2 = true
      · rw [if_pos hw, hw, Bool.true_and]
        exact bdF_none f _ _ (by rw [List.length_drop]; omega) (hb.drop _)
      · rw [if_neg hw]; simp [hw]
theorem bd_none {l : List Int} (hb : Bytes l) : bd l = none ↔ val l = true := bdF_none l.length l 0 (Nat.le_refl _) hb
end Go.Proofs.YtphkdagapoonjaaGreatDoor.Lx
