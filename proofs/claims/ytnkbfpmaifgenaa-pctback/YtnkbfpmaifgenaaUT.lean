/- Plain facts on what stands in bytes: what is written is read; what is cut; what is put together. -/
import Derived.Test.YtnkbfpmaifgenaaUC
import Derived.Test.YtnkbfpmaifgenaaUV
namespace Go.Proofs.Ytnkbfpmaifgenaa.U
open Go.RowKit

theorem low_ge (c : Int) : 128 ≤ lowOf c := by unfold lowOf; (repeat' split) <;> omega
theorem high_le (c : Int) : highOf c ≤ 191 := by unfold highOf; (repeat' split) <;> omega

theorem nx_w1 (a : Int) (t : List Int) (h : a < 128) : nx (a :: t) = (a, 1, true) := by rw [nx, if_pos h]
theorem nx_w2 (a b : Int) (t : List Int) (h1 : 194 ≤ a) (h2 : a ≤ 223) (h3 : 128 ≤ b) (h4 : b ≤ 191) : nx (a :: b :: t) = ((a - 192) * 64 + (b - 128), 2, true) := by
  have hf : follow a = 1 := by unfold follow; rw [if_neg (by omega), if_neg (by omega), if_pos ⟨h1, h2⟩]
  have hl1 : lowOf a = 128 := by unfold lowOf; rw [if_neg (by omega), if_neg (by omega)]
  have hh1 : highOf a = 191 := by unfold highOf; rw [if_neg (by omega), if_neg (by omega)]
  have e : nx (a :: b :: t) = nxl 1 (b :: t) 1 (a % 32) 128 191 := by rw [nx, if_neg (by omega), hf, hl1, hh1]; rfl
  rw [e, nxl, if_neg (by omega), nxl]
  refine Prod.ext ?_ rfl
  simp only; omega
theorem nx_t2 (a : Int) (h1 : 194 ≤ a) (h2 : a ≤ 223) : nx [a] = (65533, 1, false) := by
  have hf : follow a = 1 := by unfold follow; rw [if_neg (by omega), if_neg (by omega), if_pos ⟨h1, h2⟩]
  rw [nx, if_neg (by omega), hf]; rfl
theorem nx_e3 (a : Int) (t : List Int) (h1 : 224 ≤ a) (h2 : a ≤ 239) : nx (a :: t) = nxl 2 t 1 (a % 16) (lowOf a) (highOf a) := by
  have hf : follow a = 2 := by unfold follow; rw [if_neg (by omega), if_pos ⟨h1, h2⟩]
  rw [nx, if_neg (by omega), hf]; rfl
theorem nx_w3 (a b c : Int) (t : List Int) (h1 : 224 ≤ a) (h2 : a ≤ 239) (h3 : lowOf a ≤ b) (h4 : b ≤ highOf a) (h5 : 128 ≤ c) (h6 : c ≤ 191) :
    nx (a :: b :: c :: t) = ((a - 224) * 4096 + (b - 128) * 64 + (c - 128), 3, true) := by
  have q1 := low_ge a
  have q2 := high_le a
  rw [nx_e3 a _ h1 h2, nxl, if_neg (by omega), nxl, if_neg (by omega), nxl]
  refine Prod.ext ?_ rfl
  simp only; omega
theorem nx_e4 (a : Int) (t : List Int) (h1 : 240 ≤ a) (h2 : a ≤ 244) : nx (a :: t) = nxl 3 t 1 (a % 8) (lowOf a) (highOf a) := by
  have hf : follow a = 3 := by unfold follow; rw [if_pos ⟨h1, h2⟩]
  rw [nx, if_neg (by omega), hf]; rfl
theorem nx_w4 (a b c d : Int) (t : List Int) (h1 : 240 ≤ a) (h2 : a ≤ 244) (h3 : lowOf a ≤ b) (h4 : b ≤ highOf a) (h5 : 128 ≤ c) (h6 : c ≤ 191) (h7 : 128 ≤ d) (h8 : d ≤ 191) :
    nx (a :: b :: c :: d :: t) = ((a - 240) * 262144 + (b - 128) * 4096 + (c - 128) * 64 + (d - 128), 4, true) := by
  have q1 := low_ge a
  have q2 := high_le a
  rw [nx_e4 a _ h1 h2, nxl, if_neg (by omega), nxl, if_neg (by omega), nxl, if_neg (by omega), nxl]
  refine Prod.ext ?_ rfl
  simp only; omega

/-- What is whole at the front stays there, whatever stands behind it; its bytes are its own; what is cut through is a sign. -/
theorem nx_whole (l : List Int) (h : l ≠ []) (hl : Bytes l) (hw : (nx l).2.2 = true) :
    (∀ r, nx (l ++ r) = nx l) ∧ enc (nx l).1 = l.take (nx l).2.1 ∧ (∀ n, (nx l).2.1 ≤ n → nx (l.take n) = nx l) ∧ (∀ n, 0 < n → n < (nx l).2.1 → nx (l.take n) = (65533, n, false)) := by
  rcases nx_inv l h hl with ⟨a, t, rfl, h0, h1, e⟩ | ⟨a, b, t, rfl, h1, h2, h3, h4, e⟩ | ⟨a, b, c, t, rfl, h1, h2, h3, h4, h5, h6, e⟩ | ⟨a, b, c, d, t, rfl, h1, h2, h3, h4, h5, h6, h7, h8, e⟩ | ⟨n, _, _, e⟩
  · rw [e]
    refine ⟨fun r => nx_w1 a _ h1, ?_, ?_, ?_⟩
    · simp only; unfold enc; rw [if_pos h1]; rfl
    · intro n hn
      obtain ⟨m, rfl⟩ : ∃ m, n = m + 1 := ⟨n - 1, by simp only at hn; omega⟩
      exact nx_w1 a _ h1
    · intro n h0 hn; simp only at hn; omega
  · rw [e]
    refine ⟨fun r => nx_w2 a b _ h1 h2 h3 h4, ?_, ?_, ?_⟩
    · simp only; unfold enc; rw [if_neg (by omega), if_pos (by omega)]
      have e1 : 192 + ((a - 192) * 64 + (b - 128)) / 64 = a := by omega
      have e2 : 128 + ((a - 192) * 64 + (b - 128)) % 64 = b := by omega
      rw [e1, e2]; rfl
    · intro n hn
      obtain ⟨m, rfl⟩ : ∃ m, n = m + 2 := ⟨n - 2, by simp only at hn; omega⟩
      exact nx_w2 a b _ h1 h2 h3 h4
    · intro n h0 hn
      obtain rfl : n = 1 := by simp only at hn; omega
      exact nx_t2 a h1 h2
  · have q1 := low_ge a
    have q2 := high_le a
    rw [e]
    refine ⟨fun r => nx_w3 a b c _ h1 h2 h3 h4 h5 h6, ?_, ?_, ?_⟩
    · have hlo : a = 224 → 160 ≤ b := fun ha => by subst ha; exact h3
      simp only; unfold enc; rw [if_neg (by omega), if_neg (by omega), if_pos (by omega)]
      have e1 : 224 + ((a - 224) * 4096 + (b - 128) * 64 + (c - 128)) / 4096 = a := by omega
      have e2 : 128 + ((a - 224) * 4096 + (b - 128) * 64 + (c - 128)) / 64 % 64 = b := by omega
      have e3 : 128 + ((a - 224) * 4096 + (b - 128) * 64 + (c - 128)) % 64 = c := by omega
      rw [e1, e2, e3]; rfl
    · intro n hn
      obtain ⟨m, rfl⟩ : ∃ m, n = m + 3 := ⟨n - 3, by simp only at hn; omega⟩
      exact nx_w3 a b c _ h1 h2 h3 h4 h5 h6
    · intro n h0 hn
      have : n = 1 ∨ n = 2 := by simp only at hn; omega
      rcases this with rfl | rfl
      · show nx [a] = _
        rw [nx_e3 a _ h1 h2]; rfl
      · show nx [a, b] = _
        rw [nx_e3 a _ h1 h2, nxl, if_neg (by omega)]; rfl
  · have q1 := low_ge a
    have q2 := high_le a
    rw [e]
    refine ⟨fun r => nx_w4 a b c d _ h1 h2 h3 h4 h5 h6 h7 h8, ?_, ?_, ?_⟩
    · have hlo : a = 240 → 144 ≤ b := fun ha => by subst ha; exact h3
      simp only; unfold enc; rw [if_neg (by omega), if_neg (by omega), if_neg (by omega)]
      have e1 : 240 + ((a - 240) * 262144 + (b - 128) * 4096 + (c - 128) * 64 + (d - 128)) / 262144 = a := by omega
      have e2 : 128 + ((a - 240) * 262144 + (b - 128) * 4096 + (c - 128) * 64 + (d - 128)) / 4096 % 64 = b := by omega
      have e3 : 128 + ((a - 240) * 262144 + (b - 128) * 4096 + (c - 128) * 64 + (d - 128)) / 64 % 64 = c := by omega
      have e4 : 128 + ((a - 240) * 262144 + (b - 128) * 4096 + (c - 128) * 64 + (d - 128)) % 64 = d := by omega
      rw [e1, e2, e3, e4]; rfl
    · intro n hn
      obtain ⟨m, rfl⟩ : ∃ m, n = m + 4 := ⟨n - 4, by simp only at hn; omega⟩
      exact nx_w4 a b c d _ h1 h2 h3 h4 h5 h6 h7 h8
    · intro n h0 hn
      have : n = 1 ∨ n = 2 ∨ n = 3 := by simp only at hn; omega
      rcases this with rfl | rfl | rfl
      · show nx [a] = _
        rw [nx_e4 a _ h1 h2]; rfl
      · show nx [a, b] = _
        rw [nx_e4 a _ h1 h2, nxl, if_neg (by omega)]; rfl
      · show nx [a, b, c] = _
        rw [nx_e4 a _ h1 h2, nxl, if_neg (by omega), nxl, if_neg (by omega)]; rfl
  · rw [e] at hw; simp at hw

/-- What is written is what stands there. -/
theorem nx_enc (c : Int) (h : scal c = true) (t : List Int) : nx (enc c ++ t) = (c, (enc c).length, true) := by
  unfold scal at h
  rw [decide_eq_true_eq] at h
  unfold enc
  by_cases q1 : c < 128
  · rw [if_pos q1]; exact nx_w1 c t q1
  · rw [if_neg q1]
    by_cases q2 : c < 2048
    · rw [if_pos q2]
      show nx ((192 + c / 64) :: (128 + c % 64) :: t) = (c, 2, true)
      rw [nx_w2 _ _ _ (by omega) (by omega) (by omega) (by omega)]
      refine Prod.ext ?_ rfl
      simp only; omega
    · rw [if_neg q2]
      by_cases q3 : c < 65536
      · rw [if_pos q3]
        show nx ((224 + c / 4096) :: (128 + c / 64 % 64) :: (128 + c % 64) :: t) = (c, 3, true)
        rw [nx_w3 _ _ _ _ (by omega) (by omega) ?_ ?_ (by omega) (by omega)]
        · refine Prod.ext ?_ rfl
          simp only; omega
        · unfold lowOf
          by_cases g : 224 + c / 4096 = 224
          · rw [if_pos g]; omega
          · rw [if_neg g, if_neg (by omega)]; omega
        · unfold highOf
          by_cases g : 224 + c / 4096 = 237
          · rw [if_pos g]; omega
          · rw [if_neg g, if_neg (by omega)]; omega
      · rw [if_neg q3]
        show nx ((240 + c / 262144) :: (128 + c / 4096 % 64) :: (128 + c / 64 % 64) :: (128 + c % 64) :: t) = (c, 4, true)
        rw [nx_w4 _ _ _ _ _ (by omega) (by omega) ?_ ?_ (by omega) (by omega) (by omega) (by omega)]
        · refine Prod.ext ?_ rfl
          simp only; omega
        · unfold lowOf
          by_cases g : 240 + c / 262144 = 240
          · rw [if_neg (by omega), if_pos g]; omega
          · rw [if_neg (by omega), if_neg g]; omega
        · unfold highOf
          by_cases g : 240 + c / 262144 = 244
          · rw [if_neg (by omega), if_pos g]; omega
          · rw [if_neg (by omega), if_neg g]; omega

theorem dec_cons (l : List Int) (h : l ≠ []) (hl : Bytes l) : dec l = (nx l).1 :: dec (l.drop (nx l).2.1) := by
  unfold dec
  rw [scl_cons l h, List.map_cons, toSc_nx l hl]
theorem val_cons (l : List Int) (h : l ≠ []) (hl : Bytes l) : val l = ((nx l).2.2 && val (l.drop (nx l).2.1)) := by
  unfold val
  rw [scl_cons l h, List.all_cons, toSc_nx l hl]
theorem dec_nil : dec [] = [] := rfl
theorem val_nil : val [] = true := rfl

theorem dec_scal : ∀ (n : Nat) (l : List Int), l.length ≤ n → Bytes l → (dec l).all scal = true
  | 0, l, h, _ => by obtain rfl := List.length_eq_zero_iff.1 (show l.length = 0 by omega); rfl
  | n + 1, l, h, hl => by
    by_cases hne : l = []
    · subst hne; rfl
    · have hn := nx_n l hne
      rw [dec_cons l hne hl, List.all_cons, nx_scal l hne hl, dec_scal n _ (by rw [List.length_drop]; omega) (hl.drop _)]; rfl
theorem dec_len : ∀ (n : Nat) (l : List Int), l.length ≤ n → Bytes l → (dec l).length ≤ l.length
  | 0, l, h, _ => by obtain rfl := List.length_eq_zero_iff.1 (show l.length = 0 by omega); exact Nat.le_refl _
  | n + 1, l, h, hl => by
    by_cases hne : l = []
    · subst hne; exact Nat.le_refl _
    · have hn := nx_n l hne
      have := dec_len n (l.drop (nx l).2.1) (by rw [List.length_drop]; omega) (hl.drop _)
      rw [List.length_drop] at this
      rw [dec_cons l hne hl, List.length_cons]; omega

theorem dec_app : ∀ (n : Nat) (l r : List Int), l.length ≤ n → Bytes l → Bytes r → val l = true → dec (l ++ r) = dec l ++ dec r
  | 0, l, r, h, _, _, _ => by obtain rfl := List.length_eq_zero_iff.1 (show l.length = 0 by omega); rfl
  | n + 1, l, r, h, hl, hr, hv => by
    by_cases hne : l = []
    · subst hne; rfl
    · have hn := nx_n l hne
      rw [val_cons l hne hl, Bool.and_eq_true] at hv
      have hlr : Bytes (l ++ r) := fun b hb => (List.mem_append.1 hb).elim (hl b) (hr b)
      have hw := (nx_whole l hne hl hv.1).1 r
      rw [dec_cons (l ++ r) (by simp [hne]) hlr, hw, List.drop_append_of_le_length hn.2, dec_app n (l.drop (nx l).2.1) r (by rw [List.length_drop]; omega) (hl.drop _) hr hv.2, dec_cons l hne hl]
      rfl

theorem back : ∀ (zs : List Int), zs.all scal = true → dec (encs zs) = zs ∧ val (encs zs) = true
  | [], _ => ⟨rfl, rfl⟩
  | c :: t, h => by
    rw [List.all_cons, Bool.and_eq_true] at h
    have ih := back t h.2
    have e : encs (c :: t) = enc c ++ encs t := by simp [encs]
    have hx := nx_enc c h.1 (encs t)
    have hlen := enc_len c
    have hne : enc c ++ encs t ≠ [] := fun hh => by have := congrArg List.length hh; rw [List.length_append, List.length_nil] at this; omega
    have hb : Bytes (enc c ++ encs t) := fun b hb => (List.mem_append.1 hb).elim (enc_bytes c (by have := h.1; unfold scal at this; rw [decide_eq_true_eq] at this; omega) (by have := h.1; unfold scal at this; rw [decide_eq_true_eq] at this; omega) b) (encs_bytes t (fun c hc => by have := List.all_eq_true.1 h.2 c hc; unfold scal at this; rw [decide_eq_true_eq] at this; omega) b)
    have hd : (enc c ++ encs t).drop (enc c).length = encs t := by simp
    rw [e, dec_cons _ hne hb, val_cons _ hne hb, hx]
    simp only [hd, ih.1, ih.2]
    exact ⟨trivial, rfl⟩

theorem clean_of_val : ∀ (n : Nat) (l : List Int), l.length ≤ n → Bytes l → val l = true → encs (dec l) = l
  | 0, l, h, _, _ => by obtain rfl := List.length_eq_zero_iff.1 (show l.length = 0 by omega); rfl
  | n + 1, l, h, hl, hv => by
    by_cases hne : l = []
    · subst hne; rfl
    · have hn := nx_n l hne
      rw [val_cons l hne hl, Bool.and_eq_true] at hv
      have hw := (nx_whole l hne hl hv.1).2.1
      have ih := clean_of_val n (l.drop (nx l).2.1) (by rw [List.length_drop]; omega) (hl.drop _) hv.2
      rw [dec_cons l hne hl]
      show enc _ ++ encs _ = l
      rw [hw, ih, List.take_append_drop]

/-- What becomes of a valid text that is cut. -/
theorem cut : ∀ (k : Nat) (l : List Int) (n : Nat), l.length ≤ k → Bytes l → val l = true →
    (dec (l.take n)).length ≤ (dec l).length ∧ ∀ i, i < (dec (l.take n)).length → (dec (l.take n))[i]?.getD 0 = (dec l)[i]?.getD 0 ∨ (i + 1 = (dec (l.take n)).length ∧ (dec (l.take n))[i]?.getD 0 = 65533 ∧ val (l.take n) = false)
  | 0, l, n, h, _, _ => by
    obtain rfl := List.length_eq_zero_iff.1 (show l.length = 0 by omega)
    rw [List.take_nil]
    exact ⟨Nat.le_refl _, fun i hi => .inl rfl⟩
  | k + 1, l, n, h, hl, hv => by
    by_cases hne : l = []
    · subst hne; rw [List.take_nil]; exact ⟨Nat.le_refl _, fun i hi => .inl rfl⟩
    by_cases h0 : n = 0
    · subst h0
      rw [List.take_zero, dec_nil]
      exact ⟨by simp, fun i hi => by simp at hi⟩
    · have hn := nx_n l hne
      rw [val_cons l hne hl, Bool.and_eq_true] at hv
      obtain ⟨_, _, w3, w4⟩ := nx_whole l hne hl hv.1
      have htne : l.take n ≠ [] := fun hh => by have := congrArg List.length hh; rw [List.length_take, List.length_nil] at this; omega
      by_cases hlt : (nx l).2.1 ≤ n
      · have e := w3 n hlt
        have ih := cut k (l.drop (nx l).2.1) (n - (nx l).2.1) (by rw [List.length_drop]; omega) (hl.drop _) hv.2
        have ed : (l.take n).drop (nx l).2.1 = (l.drop (nx l).2.1).take (n - (nx l).2.1) := List.drop_take
        rw [dec_cons _ htne (hl.take n), dec_cons l hne hl, val_cons _ htne (hl.take n), e, ed, hv.1]
        refine ⟨by simp only [List.length_cons]; omega, fun i hi => ?_⟩
        match i with
        | 0 => exact .inl rfl
        | i + 1 =>
          simp only [List.length_cons] at hi
          rcases ih.2 i (by omega) with q | ⟨q1, q2, q3⟩
          · exact .inl (by simpa using q)
          · exact .inr ⟨by simp only [List.length_cons]; omega, by simpa using q2, by rw [q3]; rfl⟩
      · have e := w4 n (by omega) (by omega)
        have ed : (l.take n).drop n = [] := by rw [List.drop_eq_nil_iff, List.length_take]; omega
        rw [dec_cons _ htne (hl.take n), dec_cons l hne hl, val_cons _ htne (hl.take n), e]
        simp only [ed, dec_nil]
        refine ⟨by simp, fun i hi => .inr ⟨?_, ?_, rfl⟩⟩
        · simp at hi; simp; omega
        · simp at hi; subst hi; rfl
end Go.Proofs.Ytnkbfpmaifgenaa.U
