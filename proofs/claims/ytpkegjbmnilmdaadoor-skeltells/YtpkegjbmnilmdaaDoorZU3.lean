/- Texts of one layer, one behind the other: UT UG UH UQ. -/
import Derived.Test.YtpkegjbmnilmdaaDoorZU2
import Derived.Laws.AppendOwnNone
import Derived.Laws.Concat
import Derived.OpenShut
/- Plain facts on what stands in bytes: what is written is read; what is cut; what is put together. -/
namespace Go.Proofs.YtpkegjbmnilmdaaDoor.U
open Go.RowKit

theorem low_ge (c : Int) : 128 ≤ lowOf c := by unfold lowOf; (repeat' split) <;> omega
theorem high_le (c : Int) : highOf c ≤ 191 := by unfold highOf; (repeat' split) <;> omega

theorem nx_w1 (a : Int) (t : List Int) (h : a < 128) : nx (a :: t) = (a, 1, true) := by rw [nx, if_pos h]
theorem nx_w2 (a b : Int) (t : List Int) (h1 : 194 ≤ a) (h2 : a ≤ 223) (h3 : 128 ≤ b) (h4 : b ≤ 191) : nx (a :: b :: t) = ((a - 192) * 64 + (b - 128), 2, true) := by
  have hf : follow a = 1 := by unfold follow; rw [if_neg (by omega), if_neg (by omega), if_pos ⟨h1, h2⟩]
  have hl1 : lowOf a = 128 := by unfold lowOf; rw [if_neg (by omega), if_neg (by omega)]
  have hh1 : highOf a = 191 := by unfold highOf; rw [if_neg (by omega), if_neg (by omega)]
  have e : nx (a :: b :: t) = nxl 1 (b :: t) 1 (a % 32) 128 191 := by rw [nx, if_neg (by omega), hf, hl1, hh1]; rfl
  rw [e, nxl, if_neg (by omega), nxl]
  refine Prod.ext ?_ rfl
  simp only; omega
theorem nx_t2 (a : Int) (h1 : 194 ≤ a) (h2 : a ≤ 223) : nx [a] = (65533, 1, false) := by
  have hf : follow a = 1 := by unfold follow; rw [if_neg (by omega), if_neg (by omega), if_pos ⟨h1, h2⟩]
  rw [nx, if_neg (by omega), hf]; rfl
theorem nx_e3 (a : Int) (t : List Int) (h1 : 224 ≤ a) (h2 : a ≤ 239) : nx (a :: t) = nxl 2 t 1 (a % 16) (lowOf a) (highOf a) := by
  have hf : follow a = 2 := by unfold follow; rw [if_neg (by omega), if_pos ⟨h1, h2⟩]
  rw [nx, if_neg (by omega), hf]; rfl
theorem nx_w3 (a b c : Int) (t : List Int) (h1 : 224 ≤ a) (h2 : a ≤ 239) (h3 : lowOf a ≤ b) (h4 : b ≤ highOf a) (h5 : 128 ≤ c) (h6 : c ≤ 191) :
    nx (a :: b :: c :: t) = ((a - 224) * 4096 + (b - 128) * 64 + (c - 128), 3, true) := by
  have q1 := low_ge a
  have q2 := high_le a
  rw [nx_e3 a _ h1 h2, nxl, if_neg (by omega), nxl, if_neg (by omega), nxl]
  refine Prod.ext ?_ rfl
  simp only; omega
theorem nx_e4 (a : Int) (t : List Int) (h1 : 240 ≤ a) (h2 : a ≤ 244) : nx (a :: t) = nxl 3 t 1 (a % 8) (lowOf a) (highOf a) := by
  have hf : follow a = 3 := by unfold follow; rw [if_pos ⟨h1, h2⟩]
  rw [nx, if_neg (by omega), hf]; rfl
theorem nx_w4 (a b c d : Int) (t : List Int) (h1 : 240 ≤ a) (h2 : a ≤ 244) (h3 : lowOf a ≤ b) (h4 : b ≤ highOf a) (h5 : 128 ≤ c) (h6 : c ≤ 191) (h7 : 128 ≤ d) (h8 : d ≤ 191) :
    nx (a :: b :: c :: d :: t) = ((a - 240) * 262144 + (b - 128) * 4096 + (c - 128) * 64 + (d - 128), 4, true) := by
  have q1 := low_ge a
  have q2 := high_le a
  rw [nx_e4 a _ h1 h2, nxl, if_neg (by omega), nxl, if_neg (by omega), nxl, if_neg (by omega), nxl]
  refine Prod.ext ?_ rfl
  simp only; omega

/-- What is whole at the front stays there, whatever stands behind it; its bytes are its own; what is cut through is a sign. -/
theorem nx_whole (l : List Int) (h : l ≠ []) (hl : Bytes l) (hw : (nx l).2.2 = true) :
    (∀ r, nx (l ++ r) = nx l) ∧ enc (nx l).1 = l.take (nx l).2.1 ∧ (∀ n, (nx l).2.1 ≤ n → nx (l.take n) = nx l) ∧ (∀ n, 0 < n → n < (nx l).2.1 → nx (l.take n) = (65533, n, false)) := by
  rcases nx_inv l h hl with ⟨a, t, rfl, h0, h1, e⟩ | ⟨a, b, t, rfl, h1, h2, h3, h4, e⟩ | ⟨a, b, c, t, rfl, h1, h2, h3, h4, h5, h6, e⟩ | ⟨a, b, c, d, t, rfl, h1, h2, h3, h4, h5, h6, h7, h8, e⟩ | ⟨n, _, _, e⟩
  · rw [e]
    refine ⟨fun r => nx_w1 a _ h1, ?_, ?_, ?_⟩
    · simp only; unfold enc; rw [if_pos h1]; rfl
    · intro n hn
      obtain ⟨m, rfl⟩ : ∃ m, n = m + 1 := ⟨n - 1, by simp only at hn; omega⟩
      exact nx_w1 a _ h1
    · intro n h0 hn; simp only at hn; omega
  · rw [e]
    refine ⟨fun r => nx_w2 a b _ h1 h2 h3 h4, ?_, ?_, ?_⟩
    · simp only; unfold enc; rw [if_neg (by omega), if_pos (by omega)]
      have e1 : 192 + ((a - 192) * 64 + (b - 128)) / 64 = a := by omega
      have e2 : 128 + ((a - 192) * 64 + (b - 128)) % 64 = b := by omega
      rw [e1, e2]; rfl
    · intro n hn
      obtain ⟨m, rfl⟩ : ∃ m, n = m + 2 := ⟨n - 2, by simp only at hn; omega⟩
      exact nx_w2 a b _ h1 h2 h3 h4
    · intro n h0 hn
      obtain rfl : n = 1 := by simp only at hn; omega
      exact nx_t2 a h1 h2
  · have q1 := low_ge a
    have q2 := high_le a
    rw [e]
    refine ⟨fun r => nx_w3 a b c _ h1 h2 h3 h4 h5 h6, ?_, ?_, ?_⟩
    · have hlo : a = 224 → 160 ≤ b := fun ha => by subst ha; exact h3
      simp only; unfold enc; rw [if_neg (by omega), if_neg (by omega), if_pos (by omega)]
      have e1 : 224 + ((a - 224) * 4096 + (b - 128) * 64 + (c - 128)) / 4096 = a := by omega
      have e2 : 128 + ((a - 224) * 4096 + (b - 128) * 64 + (c - 128)) / 64 % 64 = b := by omega
      have e3 : 128 + ((a - 224) * 4096 + (b - 128) * 64 + (c - 128)) % 64 = c := by omega
      rw [e1, e2, e3]; rfl
    · intro n hn
      obtain ⟨m, rfl⟩ : ∃ m, n = m + 3 := ⟨n - 3, by simp only at hn; omega⟩
      exact nx_w3 a b c _ h1 h2 h3 h4 h5 h6
    · intro n h0 hn
      have : n = 1 ∨ n = 2 := by simp only at hn; omega
      rcases this with rfl | rfl
      · show nx [a] = _
        rw [nx_e3 a _ h1 h2]; rfl
      · show nx [a, b] = _
        rw [nx_e3 a _ h1 h2, nxl, if_neg (by omega)]; rfl
  · have q1 := low_ge a
    have q2 := high_le a
    rw [e]
    refine ⟨fun r => nx_w4 a b c d _ h1 h2 h3 h4 h5 h6 h7 h8, ?_, ?_, ?_⟩
    · have hlo : a = 240 → 144 ≤ b := fun ha => by subst ha; exact h3
      simp only; unfold enc; rw [if_neg (by omega), if_neg (by omega), if_neg (by omega)]
      have e1 : 240 + ((a - 240) * 262144 + (b - 128) * 4096 + (c - 128) * 64 + (d - 128)) / 262144 = a := by omega
      have e2 : 128 + ((a - 240) * 262144 + (b - 128) * 4096 + (c - 128) * 64 + (d - 128)) / 4096 % 64 = b := by omega
      have e3 : 128 + ((a - 240) * 262144 + (b - 128) * 4096 + (c - 128) * 64 + (d - 128)) / 64 % 64 = c := by omega
      have e4 : 128 + ((a - 240) * 262144 + (b - 128) * 4096 + (c - 128) * 64 + (d - 128)) % 64 = d := by omega
      rw [e1, e2, e3, e4]; rfl
    · intro n hn
      obtain ⟨m, rfl⟩ : ∃ m, n = m + 4 := ⟨n - 4, by simp only at hn; omega⟩
      exact nx_w4 a b c d _ h1 h2 h3 h4 h5 h6 h7 h8
    · intro n h0 hn
      have : n = 1 ∨ n = 2 ∨ n = 3 := by simp only at hn; omega
      rcases this with rfl | rfl | rfl
      · show nx [a] = _
        rw [nx_e4 a _ h1 h2]; rfl
      · show nx [a, b] = _
        rw [nx_e4 a _ h1 h2, nxl, if_neg (by omega)]; rfl
      · show nx [a, b, c] = _
        rw [nx_e4 a _ h1 h2, nxl, if_neg (by omega), nxl, if_neg (by omega)]; rfl
  · rw [e] at hw; simp at hw

/-- What is written is what stands there. -/
theorem nx_enc (c : Int) (h : scal c = true) (t : List Int) : nx (enc c ++ t) = (c, (enc c).length, true) := by
  unfold scal at h
  rw [decide_eq_true_eq] at h
  unfold enc
  by_cases q1 : c < 128
  · rw [if_pos q1]; exact nx_w1 c t q1
  · rw [if_neg q1]
    by_cases q2 : c < 2048
    · rw [if_pos q2]
      show nx ((192 + c / 64) :: (128 + c % 64) :: t) = (c, 2, true)
      rw [nx_w2 _ _ _ (by omega) (by omega) (by omega) (by omega)]
      refine Prod.ext ?_ rfl
      simp only; omega
    · rw [if_neg q2]
      by_cases q3 : c < 65536
      · rw [if_pos q3]
        show nx ((224 + c / 4096) :: (128 + c / 64 % 64) :: (128 + c % 64) :: t) = (c, 3, true)
        rw [nx_w3 _ _ _ _ (by omega) (by omega) ?_ ?_ (by omega) (by omega)]
        · refine Prod.ext ?_ rfl
          simp only; omega
        · unfold lowOf
          by_cases g : 224 + c / 4096 = 224
          · rw [if_pos g]; omega
          · rw [if_neg g, if_neg (by omega)]; omega
        · unfold highOf
          by_cases g : 224 + c / 4096 = 237
          · rw [if_pos g]; omega
          · rw [if_neg g, if_neg (by omega)]; omega
      · rw [if_neg q3]
        show nx ((240 + c / 262144) :: (128 + c / 4096 % 64) :: (128 + c / 64 % 64) :: (128 + c % 64) :: t) = (c, 4, true)
        rw [nx_w4 _ _ _ _ _ (by omega) (by omega) ?_ ?_ (by omega) (by omega) (by omega) (by omega)]
        · refine Prod.ext ?_ rfl
          simp only; omega
        · unfold lowOf
          by_cases g : 240 + c / 262144 = 240
          · rw [if_neg (by omega), if_pos g]; omega
          · rw [if_neg (by omega), if_neg g]; omega
        · unfold highOf
          by_cases g : 240 + c / 262144 = 244
          · rw [if_neg (by omega), if_pos g]; omega
          · rw [if_neg (by omega), if_neg g]; omega

theorem dec_cons (l : List Int) (h : l ≠ []) (hl : Bytes l) : dec l = (nx l).1 :: dec (l.drop (nx l).2.1) := by
  unfold dec
  rw [scl_cons l h, List.map_cons, toSc_nx l hl]
theorem val_cons (l : List Int) (h : l ≠ []) (hl : Bytes l) : val l = ((nx l).2.2 && val (l.drop (nx l).2.1)) := by
  unfold val
  rw [scl_cons l h, List.all_cons, toSc_nx l hl]
theorem dec_nil : dec [] = [] := rfl
theorem val_nil : val [] = true := rfl

theorem dec_scal : ∀ (n : Nat) (l : List Int), l.length ≤ n → Bytes l → (dec l).all scal = true
  | 0, l, h, _ => by obtain rfl := List.length_eq_zero_iff.1 (show l.length = 0 by omega); rfl
  | n + 1, l, h, hl => by
    by_cases hne : l = []
    · subst hne; rfl
    · have hn := nx_n l hne
      rw [dec_cons l hne hl, List.all_cons, nx_scal l hne hl, dec_scal n _ (by rw [List.length_drop]; omega) (hl.drop _)]; rfl
theorem dec_len : ∀ (n : Nat) (l : List Int), l.length ≤ n → Bytes l → (dec l).length ≤ l.length
  | 0, l, h, _ => by obtain rfl := List.length_eq_zero_iff.1 (show l.length = 0 by omega); exact Nat.le_refl _
  | n + 1, l, h, hl => by
    by_cases hne : l = []
    · subst hne; exact Nat.le_refl _
    · have hn := nx_n l hne
      have := dec_len n (l.drop (nx l).2.1) (by rw [List.length_drop]; omega) (hl.drop _)
      rw [List.length_drop] at this
      rw [dec_cons l hne hl, List.length_cons]; omega

theorem dec_app : ∀ (n : Nat) (l r : List Int), l.length ≤ n → Bytes l → Bytes r → val l = true → dec (l ++ r) = dec l ++ dec r
  | 0, l, r, h, _, _, _ => by obtain rfl := List.length_eq_zero_iff.1 (show l.length = 0 by omega); rfl
  | n + 1, l, r, h, hl, hr, hv => by
    by_cases hne : l = []
    · subst hne; rfl
    · have hn := nx_n l hne
      rw [val_cons l hne hl, Bool.and_eq_true] at hv
      have hlr : Bytes (l ++ r) := fun b hb => (List.mem_append.1 hb).elim (hl b) (hr b)
      have hw := (nx_whole l hne hl hv.1).1 r
      rw [dec_cons (l ++ r) (by simp [hne]) hlr, hw, List.drop_append_of_le_length hn.2, dec_app n (l.drop (nx l).2.1) r (by rw [List.length_drop]; omega) (hl.drop _) hr hv.2, dec_cons l hne hl]
      rfl

theorem back : ∀ (zs : List Int), zs.all scal = true → dec (encs zs) = zs ∧ val (encs zs) = true
  | [], _ => ⟨rfl, rfl⟩
  | c :: t, h => by
    rw [List.all_cons, Bool.and_eq_true] at h
    have ih := back t h.2
    have e : encs (c :: t) = enc c ++ encs t := by simp [encs]
    have hx := nx_enc c h.1 (encs t)
    have hlen := enc_len c
    have hne : enc c ++ encs t ≠ [] := fun hh => by have := congrArg List.length hh; rw [List.length_append, List.length_nil] at this; omega
    have hb : Bytes (enc c ++ encs t) := fun b hb => (List.mem_append.1 hb).elim (enc_bytes c (by have := h.1; unfold scal at this; rw [decide_eq_true_eq] at this; omega) (by have := h.1; unfold scal at this; rw [decide_eq_true_eq] at this; omega) b) (encs_bytes t (fun c hc => by have := List.all_eq_true.1 h.2 c hc; unfold scal at this; rw [decide_eq_true_eq] at this; omega) b)
    have hd : (enc c ++ encs t).drop (enc c).length = encs t := by simp
    rw [e, dec_cons _ hne hb, val_cons _ hne hb, hx]
    simp only [hd, ih.1, ih.2]
    exact ⟨trivial, rfl⟩

theorem clean_of_val : ∀ (n : Nat) (l : List Int), l.length ≤ n → Bytes l → val l = true → encs (dec l) = l
  | 0, l, h, _, _ => by obtain rfl := List.length_eq_zero_iff.1 (show l.length = 0 by omega); rfl
  | n + 1, l, h, hl, hv => by
    by_cases hne : l = []
    · subst hne; rfl
    · have hn := nx_n l hne
      rw [val_cons l hne hl, Bool.and_eq_true] at hv
      have hw := (nx_whole l hne hl hv.1).2.1
      have ih := clean_of_val n (l.drop (nx l).2.1) (by rw [List.length_drop]; omega) (hl.drop _) hv.2
      rw [dec_cons l hne hl]
      show enc _ ++ encs _ = l
      rw [hw, ih, List.take_append_drop]

/-- What becomes of a valid text that is cut. -/
theorem cut : ∀ (k : Nat) (l : List Int) (n : Nat), l.length ≤ k → Bytes l → val l = true →
    (dec (l.take n)).length ≤ (dec l).length ∧ ∀ i, i < (dec (l.take n)).length → (dec (l.take n))[i]?.getD 0 = (dec l)[i]?.getD 0 ∨ (i + 1 = (dec (l.take n)).length ∧ (dec (l.take n))[i]?.getD 0 = 65533 ∧ val (l.take n) = false)
  | 0, l, n, h, _, _ => by
    obtain rfl := List.length_eq_zero_iff.1 (show l.length = 0 by omega)
    rw [List.take_nil]
    exact ⟨Nat.le_refl _, fun i hi => .inl rfl⟩
  | k + 1, l, n, h, hl, hv => by
    by_cases hne : l = []
    · subst hne; rw [List.take_nil]; exact ⟨Nat.le_refl _, fun i hi => .inl rfl⟩
    by_cases h0 : n = 0
    · subst h0
      rw [List.take_zero, dec_nil]
      exact ⟨by simp, fun i hi => by simp at hi⟩
    · have hn := nx_n l hne
      rw [val_cons l hne hl, Bool.and_eq_true] at hv
      obtain ⟨_, _, w3, w4⟩ := nx_whole l hne hl hv.1
      have htne : l.take n ≠ [] := fun hh => by have := congrArg List.length hh; rw [List.length_take, List.length_nil] at this; omega
      by_cases hlt : (nx l).2.1 ≤ n
      · have e := w3 n hlt
        have ih := cut k (l.drop (nx l).2.1) (n - (nx l).2.1) (by rw [List.length_drop]; omega) (hl.drop _) hv.2
        have ed : (l.take n).drop (nx l).2.1 = (l.drop (nx l).2.1).take (n - (nx l).2.1) := List.drop_take
        rw [dec_cons _ htne (hl.take n), dec_cons l hne hl, val_cons _ htne (hl.take n), e, ed, hv.1]
        refine ⟨by simp only [List.length_cons]; omega, fun i hi => ?_⟩
        match i with
        | 0 => exact .inl rfl
        | i + 1 =>
          simp only [List.length_cons] at hi
          rcases ih.2 i (by omega) with q | ⟨q1, q2, q3⟩
          · exact .inl (by simpa using q)
          · exact .inr ⟨by simp only [List.length_cons]; omega, by simpa using q2, by rw [q3]; rfl⟩
      · have e := w4 n (by omega) (by omega)
        have ed : (l.take n).drop n = [] := by rw [List.drop_eq_nil_iff, List.length_take]; omega
        rw [dec_cons _ htne (hl.take n), dec_cons l hne hl, val_cons _ htne (hl.take n), e]
        simp only [ed, dec_nil]
        refine ⟨by simp, fun i hi => .inr ⟨?_, ?_, rfl⟩⟩
        · simp at hi; simp; omega
        · simp at hi; subst hi; rfl
end Go.Proofs.YtpkegjbmnilmdaaDoor.U
/- append on slices of code points, and what a slice that came in leads to. -/
namespace Go.Proofs.YtpkegjbmnilmdaaDoor.U
open Go.RowKit

/-- What an append takes its numbers from. -/
def SrcInts (w : World) (u : Value) (zs : List Int) : Prop :=
  (u = .slice none 0 0 ∧ zs = []) ∨ ∃ ad c, u = .slice (some ad) zs.length c ∧ ∀ j, j < zs.length → w.cell? (ad.add j) = some (.int .i32 (zs[j]?.getD 0))

theorem SrcInts.own {w : World} {base : Nat} {v : Value} {n : Nat} {zs : List Int} (hn : n = zs.length) (h : w.ownsRow base 21 1 v n (zs.map (Value.int .i32))) : SrcInts w v zs := by
  subst hn
  rcases id h.2 with ⟨rfl, h0⟩ | ⟨g, cap, cur, rfl, _⟩
  · exact .inl ⟨rfl, List.length_eq_zero_iff.1 h0⟩
  · refine .inr ⟨⟨g, 0, none⟩, cap, rfl, fun j hj => ?_⟩
    rw [addr_add0, h.cellAt j (by omega), List.getElem?_map, List.getElem?_eq_getElem hj]
    rfl
theorem SrcInts.below {A B : World} {n : Nat} (h : Below n A B) (hn : A.heap.size ≤ n) {v : Value} {zs : List Int} : SrcInts A v zs → SrcInts B v zs
  | .inl e => .inl e
  | .inr ⟨ad, c, e, hc⟩ => .inr ⟨ad, c, e, fun j hj => (h.cell (p := ad.add j) (Nat.lt_of_lt_of_le (lt_of_cell (hc j hj)) hn)).trans (hc j hj)⟩

theorem wpList_append_ints {w : World} {ops : Array Oper} {rest : List Oper} {o : Oper} {a : Act} {Q : Exit → Act → World → Prop} (hgd : o.guard = none) (s x : Operand)
    (ho : o.op = .call { callee := .builtin .append, args := #[s, x], argTypes := #[38, 38] }) (base : Nat) (v : Value) (n : Nat) (ys : List Int) (hs : a.eval s = v) (hown : w.ownsRow base 21 1 v n (ys.map (Value.int .i32)))
    (u : Value) (zs : List Int) (hx : a.eval x = u) (hu : SrcInts w u zs) (hbd : n + zs.length ≤ 17179869184) (hbase : base ≤ w.heap.size)
    (h : ∀ v' w', w'.ownsRow base 21 1 v' (n + zs.length) ((ys ++ zs).map (Value.int .i32)) → w.grownBy w' v.ownBlock → wpList Tryd.prog ops Q rest (a.put o.dst v') w') : wpList Tryd.prog ops Q (o :: rest) a w := by
  obtain ⟨i0, hi, hz0, hz1, hz2⟩ := info_parts Tryd.info21
  rcases hu with ⟨rfl, rfl⟩ | ⟨ad, c, rfl, hc⟩
  · exact wpList_append_own_none hgd s x 38 ho base 21 i0 1 Tryd.underlying38 hi v n _ hs hown hx (h v w (by simpa using hown) ⟨rfl, rfl, rfl, Nat.le_refl _, fun _ _ _ => rfl⟩)
  · refine wpList_append_own w hgd s x 38 ho base 21 i0 (.int .i32 0) 1 4 Tryd.underlying38 hi hz0 hz1 hz2 rfl (by decide) v n _ hs hown ad zs.length c (zs.map (Value.int .i32)) hx (by simp) ?_ ?_ (by unfold maxLen; omega) (by omega) hbase (fun v' w' h1 h2 _ => h v' w' (by simpa using h1) h2)
    · intro j y hj
      rw [List.getElem?_map] at hj
      obtain ⟨c', hc', rfl⟩ := Option.map_eq_some_iff.1 hj
      have hj' := (List.getElem?_eq_some_iff.1 hc').1
      rw [hc j hj', hc']; rfl
    · intro y hy
      obtain ⟨c', _, rfl⟩ := List.mem_map.1 hy
      rfl

/-- A row of the call's own that is written leaves what lay below its base. -/
theorem below_grow {B : Nat} {w w1 w2 : World} {e : TypeId} {size : Nat} {v : Value} {n : Nat} {xs : List Value} (hB : Below B w w1) (hb : B ≤ w1.heap.size) (hown : w1.ownsRow B e size v n xs) (hg : w1.grownBy w2 v.ownBlock) : Below B w w2 :=
  hB.grown hg hb (fun j ej => by
    rcases hown.2 with ⟨rfl, _⟩ | ⟨g, cap, cur, rfl, hbg, _, _⟩
    · simp [Value.ownBlock] at ej
    · obtain rfl : g = j := by simpa [Value.ownBlock] using ej
      exact hbg)
theorem bn_append (a b : ByteArray) : bn (a ++ b) = bn a ++ bn b := by
  unfold bn
  rw [← List.map_append]
  congr 1
theorem ownsRow_below {base B : Nat} {e : TypeId} {size : Nat} {v : Value} {n : Nat} {xs : List Value} {w w' : World} (h : w.ownsRow base e size v n xs) (hb : Below B w w') (hB : w.heap.size ≤ B) : w'.ownsRow base e size v n xs := by
  rcases h with ⟨h1, ⟨rfl, h2⟩ | ⟨g, cap, cur, rfl, hbg, hg, h3⟩⟩
  · exact ⟨h1, .inl ⟨rfl, h2⟩⟩
  · have hlt : g < w.heap.size := (Array.getElem?_eq_some_iff.1 hg).1
    exact ⟨h1, .inr ⟨g, cap, cur, rfl, hbg, (hb.block g (by omega)).trans hg, h3⟩⟩
end Go.Proofs.YtpkegjbmnilmdaaDoor.U
/- What a slice of code points that came in leads to. -/
namespace Go.Proofs.YtpkegjbmnilmdaaDoor.U
open Go.RowKit

/-- A slice of integers that came in: nil, or a row of cap cells that hold zs, the first len of them its elements. -/
def IsRow (k : IntKind) (w : World) (a : Option Addr) (len cap : Nat) (zs : List Int) : Prop :=
  (a = none ∧ len = 0 ∧ cap = 0 ∧ zs = []) ∨
  ∃ x, a = some x ∧ len ≤ cap ∧ cap ≤ maxLen ∧ zs.length = cap ∧ (∀ i, i < zs.length → w.cell? (x.add i) = some (.int k (zs.getD i 0))) ∧ ∀ n ∈ zs, (Lit.int k n).wf = true

theorem row_max {k : IntKind} {w : World} {a : Option Addr} {len cap : Nat} {zs : List Int} (h : IsRow k w a len cap zs) : len ≤ maxLen := by
  rcases h with ⟨_, rfl, _, rfl⟩ | ⟨x, _, hl, hm, _⟩
  · exact Nat.zero_le _
  · omega
theorem row_len {k : IntKind} {w : World} {a : Option Addr} {len cap : Nat} {zs : List Int} (h : IsRow k w a len cap zs) : (zs.take len).length = len := by
  rcases h with ⟨_, rfl, _, rfl⟩ | ⟨x, _, hl, _, hz, _⟩
  · rfl
  · rw [List.length_take]; omega
theorem take_get (zs : List Int) (len j : Nat) (hj : j < (zs.take len).length) : (zs.take len)[j]?.getD 0 = zs.getD j 0 := by
  rw [List.length_take] at hj
  rw [List.getElem?_take, if_pos (by omega)]; simp
theorem row_src {w : World} {a : Option Addr} {len cap : Nat} {zs : List Int} (h : IsRow .i32 w a len cap zs) : SrcInts w (.slice a len cap) (zs.take len) := by
  have hlen := row_len h
  rcases h with ⟨rfl, rfl, rfl, rfl⟩ | ⟨x, rfl, hl, _, hz, hc, _⟩
  · exact .inl ⟨rfl, rfl⟩
  · refine .inr ⟨x, cap, by rw [hlen], fun j hj => ?_⟩
    rw [take_get zs len j hj]
    exact hc j (by rw [hlen] at hj; omega)
theorem row_ints {w : World} {a : Option Addr} {len cap : Nat} {zs : List Int} (h : IsRow .i32 w a len cap zs) : IntsAt w (.slice a len cap) (zs.take len) := by
  have hlen := row_len h
  rcases h with ⟨rfl, rfl, rfl, rfl⟩ | ⟨x, rfl, hl, _, hz, hc, _⟩
  · exact .inl ⟨rfl, _, _, rfl⟩
  · by_cases h0 : len = 0
    · subst h0; exact .inl ⟨rfl, _, _, rfl⟩
    · obtain ⟨b, off, rfl, hc'⟩ := ints_at hc (by omega)
      refine .inr ⟨by omega, b, off, cap, by rw [hlen], fun j hj => ?_⟩
      rw [take_get zs len j hj]
      exact hc' j (by rw [hlen] at hj; omega)
end Go.Proofs.YtpkegjbmnilmdaaDoor.U
/- The contracts of the document's own answer (package portcullisref01): Scalar, Bytes, Encode. -/
namespace Go.Proofs.YtpkegjbmnilmdaaDoor.U
open Go.RowKit

set_option maxHeartbeats 400000 in
theorem refScalar_any (c : Int) (w : World) :
    Calls Tryd.prog 40 #[.int .i32 c] w fun e w' => e = .returned (.bool (scal c)) ∧ w' = w := by
  go_enter Tryd.func40, Tryd.ntmps40
  go_wp2
  all_goals (go_ret; exact ⟨ret_bool (by unfold scal; rw [Bool.eq_iff_iff]; simp; try omega), rfl⟩)

set_option maxRecDepth 100000 in
set_option maxHeartbeats 1000000 in
theorem bytes1 (c : Int) (h0 : 0 ≤ c) (h1 : c < 128) (w : World) :
    Calls Tryd.prog 41 #[.int .i32 c] w fun e W' => (∃ t, e = .returned (.string t) ∧ bn t = [c]) ∧ Below w.heap.size w W' := by
  obtain ⟨i0, hi, hz0, hz1, hz2⟩ := info_parts Tryd.info5
  have HB : Hid (Bytes [c]) := fun b hb => by simp at hb; omega
  go_enter Tryd.func41, Tryd.ntmps41
  go_wp2_with (at_builtin; refine wpList_append_own _ rfl _ _ 24 rfl w.heap.size 5 i0 (.int .u8 0) 1 1 Tryd.underlying24 hi hz0 hz1 hz2 rfl (by decide) _ 0 [] rfl (World.ownsRow_nil _ _ _ _) ⟨w.heap.size, 0, none⟩ 1 1 [.int .u8 (c)] rfl rfl (news_at _ _ _) (by simp [Value.oneCell']) (by unfold maxLen; omega) (by omega) (by simp) ?_; intro v' w1 hown' hgrow _; obtain ⟨t, hcv, ht⟩ := conv_string w1 w.heap.size v' 1 [c] rfl HB.out (by simpa using hown'))
  go_ret
  exact ⟨⟨t, rfl, ht⟩, below_grow (v := .slice none 0 0) (n := 0) (xs := []) ((Below.refl w.heap.size w).alloc (Nat.le_refl _) _) (by simp) (World.ownsRow_nil _ _ 5 1) hgrow⟩

set_option maxRecDepth 100000 in
set_option maxHeartbeats 1000000 in
theorem bytes2 (c : Int) (h0 : 128 ≤ c) (h1 : c < 2048) (w : World) :
    Calls Tryd.prog 41 #[.int .i32 c] w fun e W' => (∃ t, e = .returned (.string t) ∧ bn t = [192 + c / 64, 128 + c % 64]) ∧ Below w.heap.size w W' := by
  obtain ⟨i0, hi, hz0, hz1, hz2⟩ := info_parts Tryd.info5
  have HB : Hid (Bytes [192 + c / 64, 128 + c % 64]) := fun b hb => by simp at hb; omega
  go_enter Tryd.func41, Tryd.ntmps41
  go_wp2_with (at_builtin; refine wpList_append_own _ rfl _ _ 24 rfl w.heap.size 5 i0 (.int .u8 0) 1 1 Tryd.underlying24 hi hz0 hz1 hz2 rfl (by decide) _ 0 [] rfl (World.ownsRow_nil _ _ _ _) ⟨w.heap.size, 0, none⟩ 2 2 [.int .u8 (192 + c / 64), .int .u8 (128 + c % 64)] rfl rfl (news_at _ _ _) (by simp [Value.oneCell']) (by unfold maxLen; omega) (by omega) (by simp) ?_; intro v' w1 hown' hgrow _; obtain ⟨t, hcv, ht⟩ := conv_string w1 w.heap.size v' 2 [192 + c / 64, 128 + c % 64] rfl HB.out (by simpa using hown'))
  go_ret
  exact ⟨⟨t, rfl, ht⟩, below_grow (v := .slice none 0 0) (n := 0) (xs := []) ((Below.refl w.heap.size w).alloc (Nat.le_refl _) _) (by simp) (World.ownsRow_nil _ _ 5 1) hgrow⟩

set_option maxRecDepth 100000 in
set_option maxHeartbeats 1000000 in
theorem bytes3 (c : Int) (h0 : 2048 ≤ c) (h1 : c < 65536) (w : World) :
    Calls Tryd.prog 41 #[.int .i32 c] w fun e W' => (∃ t, e = .returned (.string t) ∧ bn t = [224 + c / 4096, 128 + c / 64 % 64, 128 + c % 64]) ∧ Below w.heap.size w W' := by
  obtain ⟨i0, hi, hz0, hz1, hz2⟩ := info_parts Tryd.info5
  have HB : Hid (Bytes [224 + c / 4096, 128 + c / 64 % 64, 128 + c % 64]) := fun b hb => by simp at hb; omega
  go_enter Tryd.func41, Tryd.ntmps41
  go_wp2_with (at_builtin; refine wpList_append_own _ rfl _ _ 24 rfl w.heap.size 5 i0 (.int .u8 0) 1 1 Tryd.underlying24 hi hz0 hz1 hz2 rfl (by decide) _ 0 [] rfl (World.ownsRow_nil _ _ _ _) ⟨w.heap.size, 0, none⟩ 3 3 [.int .u8 (224 + c / 4096), .int .u8 (128 + c / 64 % 64), .int .u8 (128 + c % 64)] rfl rfl (news_at _ _ _) (by simp [Value.oneCell']) (by unfold maxLen; omega) (by omega) (by simp) ?_; intro v' w1 hown' hgrow _; obtain ⟨t, hcv, ht⟩ := conv_string w1 w.heap.size v' 3 [224 + c / 4096, 128 + c / 64 % 64, 128 + c % 64] rfl HB.out (by simpa using hown'))
  go_ret
  exact ⟨⟨t, rfl, ht⟩, below_grow (v := .slice none 0 0) (n := 0) (xs := []) ((Below.refl w.heap.size w).alloc (Nat.le_refl _) _) (by simp) (World.ownsRow_nil _ _ 5 1) hgrow⟩

set_option maxRecDepth 100000 in
set_option maxHeartbeats 1000000 in
theorem bytes4 (c : Int) (h0 : 65536 ≤ c) (h1 : c < 1114112) (w : World) :
    Calls Tryd.prog 41 #[.int .i32 c] w fun e W' => (∃ t, e = .returned (.string t) ∧ bn t = [240 + c / 262144, 128 + c / 4096 % 64, 128 + c / 64 % 64, 128 + c % 64]) ∧ Below w.heap.size w W' := by
  obtain ⟨i0, hi, hz0, hz1, hz2⟩ := info_parts Tryd.info5
  have HB : Hid (Bytes [240 + c / 262144, 128 + c / 4096 % 64, 128 + c / 64 % 64, 128 + c % 64]) := fun b hb => by simp at hb; omega
  go_enter Tryd.func41, Tryd.ntmps41
  go_wp2_with (at_builtin; refine wpList_append_own _ rfl _ _ 24 rfl w.heap.size 5 i0 (.int .u8 0) 1 1 Tryd.underlying24 hi hz0 hz1 hz2 rfl (by decide) _ 0 [] rfl (World.ownsRow_nil _ _ _ _) ⟨w.heap.size, 0, none⟩ 4 4 [.int .u8 (240 + c / 262144), .int .u8 (128 + c / 4096 % 64), .int .u8 (128 + c / 64 % 64), .int .u8 (128 + c % 64)] rfl rfl (news_at _ _ _) (by simp [Value.oneCell']) (by unfold maxLen; omega) (by omega) (by simp) ?_; intro v' w1 hown' hgrow _; obtain ⟨t, hcv, ht⟩ := conv_string w1 w.heap.size v' 4 [240 + c / 262144, 128 + c / 4096 % 64, 128 + c / 64 % 64, 128 + c % 64] rfl HB.out (by simpa using hown'))
  go_ret
  exact ⟨⟨t, rfl, ht⟩, below_grow (v := .slice none 0 0) (n := 0) (xs := []) ((Below.refl w.heap.size w).alloc (Nat.le_refl _) _) (by simp) (World.ownsRow_nil _ _ 5 1) hgrow⟩

theorem refBytes_any (c : Int) (h0 : 0 ≤ c) (h1 : c ≤ 1114111) (w : World) :
    Calls Tryd.prog 41 #[.int .i32 c] w fun e W' => (∃ t, e = .returned (.string t) ∧ bn t = enc c) ∧ Below w.heap.size w W' := by
  unfold enc
  by_cases q1 : c < 128
  · rw [if_pos q1]; exact bytes1 c h0 q1 w
  · rw [if_neg q1]
    by_cases q2 : c < 2048
    · rw [if_pos q2]; exact bytes2 c (by omega) q2 w
    · rw [if_neg q2]
      by_cases q3 : c < 65536
      · rw [if_pos q3]; exact bytes3 c (by omega) q3 w
      · rw [if_neg q3]; exact bytes4 c (by omega) (by omega) w

/-- What the document's Encode answers. -/
def encQ (zs : List Int) (t : ByteArray) (e : Bool) : Prop := (zs.all scal = true ∧ e = true ∧ bn t = encs zs) ∨ (zs.all scal = false ∧ e = false ∧ t = ⟨#[]⟩)

set_option maxRecDepth 100000 in
set_option maxHeartbeats 2000000 in
theorem refEncode_some (b off cap : Nat) (zs : List Int) (hlen : zs.length ≤ 17179869184) (w : World) (hp : 0 < zs.length) (hc : ∀ j, j < zs.length → w.cell? ⟨b, off + j, none⟩ = some (.int .i32 (zs[j]?.getD 0))) :
    Calls Tryd.prog 24 #[.slice (some ⟨b, off, none⟩) zs.length cap] w fun e W' => (∃ t r, e = .returned (.tuple #[.string t, .bool r]) ∧ encQ zs t r) ∧ Below w.heap.size w W' := by
  have hb : b < w.heap.size := lt_of_cell (hc 0 hp)
  go_enter Tryd.func24, Tryd.ntmps24
  go_wp2_with fail
  go_loopw [4, 5] (fun v i wr => ∃ (k : Nat) (t : ByteArray), k ≤ zs.length ∧ i = .int .i64 k ∧ v = .string t ∧ Hid ((zs.take k).all scal = true) ∧ Hid (bn t = encs (zs.take k)) ∧ Below w.heap.size w wr)
    (fun _ i _ => zs.length - (intOf i).toNat)
  case atStart => exact ⟨0, ⟨#[]⟩, Nat.zero_le _, rfl, rfl, by show _ = _; simp, by show _ = _; simp; rfl, Below.refl _ _⟩
  case round =>
    obtain ⟨k, t, hk, rfl, rfl, H1, H0, hB⟩ := hrel
    by_cases hlt : k < zs.length
    · have hck : wr.cell? ⟨b, off + k, none⟩ = some (.int .i32 (zs[k]?.getD 0)) := (hB.cell (p := ⟨b, off + k, none⟩) hb).trans (hc k hlt)
      have hel := encs_len (zs.take k)
      rw [← H0.out, bn_length] at hel
      have htl : (zs.take k).length ≤ k := List.length_take_le _ _
      have H2 : Hid (encs (zs.take (k + 1)) = encs (zs.take k) ++ enc (zs[k]?.getD 0)) := encs_take_snoc zs k hlt
      obtain ⟨c, hcc⟩ : ∃ c, c = zs[k]?.getD 0 := ⟨_, rfl⟩
      rw [← hcc] at hck
      have HC : Hid (c = zs[k]?.getD 0) := hcc
      clear hcc
      cases hsc : scal c with
      | true =>
        have HS : Hid (scal c = true) := hsc
        clear hsc
        have hbd := scal_bd HS.out
        go_wp2_with fail
        refine (refScalar_any _ _).mono ?_
        rw [HS.out]
        rintro e w' ⟨rfl, rfl⟩
        go_wp2_with fail
        refine (refBytes_any _ hbd.1 hbd.2 _).mono ?_
        rintro e w1 ⟨⟨u, rfl, hu⟩, hB1⟩
        have HU : Hid (bn u = enc c) := hu
        have hus : u.size ≤ 4 := by have := enc_len c; rw [← hu, bn_length] at this; omega
        have B1 := hB.trans (hB1.mono hB.size)
        clear hu hB hB1 hck
        go_wp2
        go_roundw
        case rel => exact ⟨k + 1, t ++ u, by omega, by go_num, rfl, all_take_snoc zs k hlt H1.out (by rw [← HC.out]; exact HS.out), by show _ = _; rw [bn_append, H0.out, HU.out, H2.out, HC.out], B1⟩
        case measure => simp [intOf]; omega
      | false =>
        have HS : Hid (scal c = false) := hsc
        clear hsc
        go_wp2_with fail
        refine (refScalar_any _ _).mono ?_
        rw [HS.out]
        rintro e w' ⟨rfl, rfl⟩
        go_wp2
        go_ret2
        exact ⟨⟨_, _, rfl, .inr ⟨all_false zs k hlt (by rw [← HC.out]; exact HS.out), rfl, rfl⟩⟩, hB⟩
    · have hkk : k = zs.length := by omega
      rw [hkk, List.take_length] at H1 H0
      clear hkk
      go_wp2
      go_ret2
      exact ⟨⟨_, _, rfl, .inl ⟨H1.out, rfl, H0.out⟩⟩, hB⟩

set_option maxRecDepth 100000 in
set_option maxHeartbeats 1000000 in
theorem refEncode_none (a : Option Addr) (cap : Nat) (w : World) :
    Calls Tryd.prog 24 #[.slice a 0 cap] w fun e W' => (∃ t r, e = .returned (.tuple #[.string t, .bool r]) ∧ encQ [] t r) ∧ Below w.heap.size w W' := by
  go_enter Tryd.func24, Tryd.ntmps24
  go_wp2_with fail
  refine wp_loop_rounds 1 ?_
  rw [rounds_succ]
  go_wp2
  go_ret2
  exact ⟨⟨_, _, rfl, .inl ⟨rfl, rfl, rfl⟩⟩, Below.refl _ _⟩

theorem refEncode_any (v : Value) (zs : List Int) (hlen : zs.length ≤ 17179869184) (w : World) (hv : IntsAt w v zs) :
    Calls Tryd.prog 24 #[v] w fun e W' => (∃ t r, e = .returned (.tuple #[.string t, .bool r]) ∧ encQ zs t r) ∧ Below w.heap.size w W' := by
  rcases hv with ⟨rfl, a, cap, rfl⟩ | ⟨hp, b, off, cap, rfl, hc⟩
  · exact refEncode_none a cap w
  · exact refEncode_some b off cap zs hlen w hp hc
end Go.Proofs.YtpkegjbmnilmdaaDoor.U
