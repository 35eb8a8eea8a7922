/- Plain: code points and their bytes. -/
import Derived.WalkKit
import Derived.Lib.IndexBytes
namespace Go.Proofs.YtphkdagapoonjaaDoor.U
open Go.RowKit
set_option linter.unusedVariables false

def follow (c : Int) : Int := if 240 ≤ c ∧ c ≤ 244 then 3 else if 224 ≤ c ∧ c ≤ 239 then 2 else if 194 ≤ c ∧ c ≤ 223 then 1 else 0
def lowOf (c : Int) : Int := if c = 224 then 160 else if c = 240 then 144 else 128
def highOf (c : Int) : Int := if c = 237 then 159 else if c = 244 then 143 else 191
def scal (c : Int) : Bool := decide (0 ≤ c ∧ c ≤ 1114111 ∧ (c < 55296 ∨ 57343 < c))

/-- The bytes of a string, as numbers. -/
def bn (s : ByteArray) : List Int := s.data.toList.map fun c => (c.toNat : Int)

/-- The bytes behind the first, one by one: f of them are still to come, n have come, r is what they tell, lo and hi bound the next. -/
def nxl : Nat → List Int → Nat → Int → Int → Int → Int × Nat × Bool
  | 0, _, n, r, _, _ => (r, n, true)
  | _ + 1, [], n, _, _, _ => (65533, n, false)
  | f + 1, b :: t, n, r, lo, hi => if b < lo ∨ hi < b then (65533, n, false) else nxl f t (n + 1) (r * 64 + b % 64) 128 191

/-- What stands at the front. -/
def nx : List Int → Int × Nat × Bool
  | [] => (0, 0, false)
  | a :: t => if a < 128 then (a, 1, true) else if follow a = 0 then (65533, 1, false) else
      nxl (follow a).toNat t 1 (if follow a = 1 then a % 32 else if follow a = 2 then a % 16 else a % 8) (lowOf a) (highOf a)

theorem bn_length (s : ByteArray) : (bn s).length = s.size := by simp [bn]
theorem bn_drop (s : ByteArray) (k : Nat) (h : k < s.size) : (bn s).drop k = (s[k].toNat : Int) :: (bn s).drop (k + 1) := by
  have h' : k < (bn s).length := by rw [bn_length]; exact h
  rw [List.drop_eq_getElem_cons h']
  congr 1
  simp [bn]; rfl
theorem bn_drop_nil (s : ByteArray) (k : Nat) (h : s.size ≤ k) : (bn s).drop k = [] := by
  rw [List.drop_eq_nil_iff, bn_length]; exact h
theorem bn_cons (s : ByteArray) (h : 0 < s.size) : bn s = (s[0].toNat : Int) :: (bn s).drop 1 := by
  have := bn_drop s 0 h; simpa using this

theorem nxl_stop (s : ByteArray) (f k : Nat) (r lo hi : Int) (h : s.size ≤ k) : nxl (f + 1) ((bn s).drop k) k r lo hi = (65533, k, false) := by
  rw [bn_drop_nil s k h]; rfl
theorem nxl_bad (s : ByteArray) (f k : Nat) (r lo hi : Int) (h : k < s.size) (hb : (s[k].toNat : Int) < lo ∨ hi < (s[k].toNat : Int)) : nxl (f + 1) ((bn s).drop k) k r lo hi = (65533, k, false) := by
  rw [bn_drop s k h, nxl, if_pos hb]
theorem nxl_good (s : ByteArray) (f k : Nat) (r lo hi : Int) (h : k < s.size) (hb : lo ≤ (s[k].toNat : Int)) (hc : (s[k].toNat : Int) ≤ hi) :
    nxl (f + 1) ((bn s).drop k) k r lo hi = nxl f ((bn s).drop (k + 1)) (k + 1) (r * 64 + (s[k].toNat : Int) % 64) 128 191 := by
  rw [bn_drop s k h, nxl, if_neg (by omega)]

theorem nx_nil (s : ByteArray) (h : s.size = 0) : nx (bn s) = (0, 0, false) := by
  have : bn s = [] := List.length_eq_zero_iff.1 (by rw [bn_length]; exact h)
  rw [this]; rfl
theorem nx_ascii (s : ByteArray) (h : 0 < s.size) (ha : (s[0].toNat : Int) < 128) : nx (bn s) = ((s[0].toNat : Int), 1, true) := by
  rw [bn_cons s h, nx, if_pos ha]
theorem nx_none (s : ByteArray) (h : 0 < s.size) (ha : 128 ≤ (s[0].toNat : Int)) (hf : follow (s[0].toNat : Int) = 0) : nx (bn s) = (65533, 1, false) := by
  rw [bn_cons s h, nx, if_neg (by omega), if_pos hf]
theorem nx_some (s : ByteArray) (h : 0 < s.size) (ha : 128 ≤ (s[0].toNat : Int)) (m : Nat) (d : Int) (hf : follow (s[0].toNat : Int) = m) (hm : m = 1 ∧ d = 32 ∨ m = 2 ∧ d = 16 ∨ m = 3 ∧ d = 8) :
    nx (bn s) = nxl m ((bn s).drop 1) 1 ((s[0].toNat : Int) % d) (lowOf (s[0].toNat : Int)) (highOf (s[0].toNat : Int)) := by
  rw [bn_cons s h, nx, if_neg (by omega), hf, if_neg (by omega)]
  rcases hm with ⟨rfl, rfl⟩ | ⟨rfl, rfl⟩ | ⟨rfl, rfl⟩ <;> rfl
theorem follow_cases (c : Int) : (follow c = 0) ∨ (follow c = 1 ∧ 194 ≤ c ∧ c ≤ 223) ∨ (follow c = 2 ∧ 224 ≤ c ∧ c ≤ 239) ∨ (follow c = 3 ∧ 240 ≤ c ∧ c ≤ 244) := by
  unfold follow
  by_cases h3 : 240 ≤ c ∧ c ≤ 244
  · rw [if_pos h3]; omega
  · rw [if_neg h3]
    by_cases h2 : 224 ≤ c ∧ c ≤ 239
    · rw [if_pos h2]; omega
    · rw [if_neg h2]
      by_cases h1 : 194 ≤ c ∧ c ≤ 223
      · rw [if_pos h1]; omega
      · rw [if_neg h1]; omega
/-- What an iteration hands over: a code point within bounds, and whether it is whole. -/
abbrev Sc := { x : Int × Bool // 0 ≤ x.1 ∧ x.1 ≤ 1114111 }
def toSc (p : Int × Nat × Bool) : Sc := if h : 0 ≤ p.1 ∧ p.1 ≤ 1114111 then ⟨(p.1, p.2.2), h⟩ else ⟨(65533, false), by decide⟩
def scs : Nat → List Int → List Sc
  | 0, _ => []
  | _ + 1, [] => []
  | f + 1, a :: t => toSc (nx (a :: t)) :: scs f ((a :: t).drop (nx (a :: t)).2.1)
def scl (l : List Int) : List Sc := scs l.length l
def Bytes (l : List Int) : Prop := ∀ b ∈ l, 0 ≤ b ∧ b ≤ 255

theorem nxl_n : ∀ (f : Nat) (t : List Int) (n : Nat) (r lo hi : Int), n ≤ (nxl f t n r lo hi).2.1 ∧ (nxl f t n r lo hi).2.1 ≤ n + t.length
  | 0, _, _, _, _, _ => by simp [nxl]
  | _ + 1, [], _, _, _, _ => by simp [nxl]
  | f + 1, b :: t, n, r, lo, hi => by
    rw [nxl]
    split
    · simp
    · have := nxl_n f t (n + 1) (r * 64 + b % 64) 128 191
      simp only [List.length_cons]; omega
theorem nx_n (l : List Int) (h : l ≠ []) : 1 ≤ (nx l).2.1 ∧ (nx l).2.1 ≤ l.length := by
  match l with
  | [] => exact absurd rfl h
  | a :: t =>
    rw [nx]
    split
    · simp
    · split
      · simp
      · have := nxl_n (follow a).toNat t 1 (if follow a = 1 then a % 32 else if follow a = 2 then a % 16 else a % 8) (lowOf a) (highOf a)
        simp only [List.length_cons]; omega

theorem scs_same : ∀ (f g : Nat) (l : List Int), l.length ≤ f → l.length ≤ g → scs f l = scs g l
  | 0, 0, _, _, _ => rfl
  | 0, _ + 1, [], _, _ => rfl
  | 0, _ + 1, _ :: _, h, _ => by simp at h
  | _ + 1, 0, [], _, _ => rfl
  | _ + 1, 0, _ :: _, _, h => by simp at h
  | _ + 1, _ + 1, [], _, _ => rfl
  | f + 1, g + 1, a :: t, h, k => by
    have hn := nx_n (a :: t) (by simp)
    have hlen : ((a :: t).drop (nx (a :: t)).2.1).length ≤ t.length := by simp only [List.length_drop, List.length_cons]; omega
    simp only [List.length_cons] at h k
    show toSc (nx (a :: t)) :: scs f _ = toSc (nx (a :: t)) :: scs g _
    rw [scs_same f g _ (by omega) (by omega)]
theorem scs_fuel (f : Nat) (l : List Int) (h : l.length ≤ f) : scs f l = scl l := scs_same f l.length l h (Nat.le_refl _)
theorem scl_nil : scl [] = [] := rfl
theorem scl_cons (l : List Int) (h : l ≠ []) : scl l = toSc (nx l) :: scl (l.drop (nx l).2.1) := by
  match l with
  | [] => exact absurd rfl h
  | a :: t =>
    have hn := nx_n (a :: t) (by simp)
    show toSc (nx (a :: t)) :: scs t.length _ = _
    rw [scs_fuel t.length _ (by simp only [List.length_drop, List.length_cons]; omega)]

theorem bn_bytes (s : ByteArray) : Bytes (bn s) := by
  intro b hb
  simp only [bn, List.mem_map] at hb
  obtain ⟨c, _, rfl⟩ := hb
  have := c.toNat_lt
  omega
theorem Bytes.drop {l : List Int} (h : Bytes l) (k : Nat) : Bytes (l.drop k) := fun b hb => h b (List.mem_of_mem_drop hb)
theorem Bytes.take {l : List Int} (h : Bytes l) (k : Nat) : Bytes (l.take k) := fun b hb => h b (List.mem_of_mem_take hb)

/-- The five ways in which something may stand at the front. -/
theorem nx_inv (l : List Int) (h : l ≠ []) (hl : Bytes l) :
    (∃ a t, l = a :: t ∧ 0 ≤ a ∧ a < 128 ∧ nx l = (a, 1, true)) ∨
    (∃ a b t, l = a :: b :: t ∧ 194 ≤ a ∧ a ≤ 223 ∧ 128 ≤ b ∧ b ≤ 191 ∧ nx l = ((a - 192) * 64 + (b - 128), 2, true)) ∨
    (∃ a b c t, l = a :: b :: c :: t ∧ 224 ≤ a ∧ a ≤ 239 ∧ lowOf a ≤ b ∧ b ≤ highOf a ∧ 128 ≤ c ∧ c ≤ 191 ∧ nx l = ((a - 224) * 4096 + (b - 128) * 64 + (c - 128), 3, true)) ∨
    (∃ a b c d t, l = a :: b :: c :: d :: t ∧ 240 ≤ a ∧ a ≤ 244 ∧ lowOf a ≤ b ∧ b ≤ highOf a ∧ 128 ≤ c ∧ c ≤ 191 ∧ 128 ≤ d ∧ d ≤ 191 ∧ nx l = ((a - 240) * 262144 + (b - 128) * 4096 + (c - 128) * 64 + (d - 128), 4, true)) ∨
    (∃ n, 1 ≤ n ∧ n ≤ 3 ∧ nx l = (65533, n, false)) := by
  have hlo : ∀ c, 128 ≤ lowOf c := fun c => by unfold lowOf; (repeat' split) <;> omega
  have hhi : ∀ c, highOf c ≤ 191 := fun c => by unfold highOf; (repeat' split) <;> omega
  match l with
  | [] => exact absurd rfl h
  | a :: t =>
    have ha := hl a (by simp)
    by_cases h8 : a < 128
    · exact .inl ⟨a, t, rfl, ha.1, h8, by rw [nx, if_pos h8]⟩
    rcases follow_cases a with hf | ⟨hf, h1, h2⟩ | ⟨hf, h1, h2⟩ | ⟨hf, h1, h2⟩
    · exact .inr (.inr (.inr (.inr ⟨1, by omega, by omega, by rw [nx, if_neg h8, if_pos hf]⟩)))
    · have hl1 : lowOf a = 128 := by unfold lowOf; rw [if_neg (by omega), if_neg (by omega)]
      have hh1 : highOf a = 191 := by unfold highOf; rw [if_neg (by omega), if_neg (by omega)]
      have e : nx (a :: t) = nxl 1 t 1 (a % 32) 128 191 := by rw [nx, if_neg h8, hf, hl1, hh1]; rfl
      match t with
      | [] => exact .inr (.inr (.inr (.inr ⟨1, by omega, by omega, by rw [e]; rfl⟩)))
      | b :: t =>
        by_cases hb : b < 128 ∨ 191 < b
        · exact .inr (.inr (.inr (.inr ⟨1, by omega, by omega, by rw [e, nxl, if_pos hb]⟩)))
        · refine .inr (.inl ⟨a, b, t, rfl, h1, h2, by omega, by omega, ?_⟩)
          rw [e, nxl, if_neg hb, nxl]
          refine Prod.ext ?_ rfl
          simp only; omega
    · have e : nx (a :: t) = nxl 2 t 1 (a % 16) (lowOf a) (highOf a) := by rw [nx, if_neg h8, hf]; rfl
      have q1 := hlo a
      have q2 := hhi a
      match t with
      | [] => exact .inr (.inr (.inr (.inr ⟨1, by omega, by omega, by rw [e]; rfl⟩)))
      | b :: t =>
        by_cases hb : b < lowOf a ∨ highOf a < b
        · exact .inr (.inr (.inr (.inr ⟨1, by omega, by omega, by rw [e, nxl, if_pos hb]⟩)))
        · match t with
          | [] => exact .inr (.inr (.inr (.inr ⟨2, by omega, by omega, by rw [e, nxl, if_neg hb]; rfl⟩)))
          | c :: t =>
            by_cases hc : c < 128 ∨ 191 < c
            · exact .inr (.inr (.inr (.inr ⟨2, by omega, by omega, by rw [e, nxl, if_neg hb, nxl, if_pos hc]⟩)))
            · refine .inr (.inr (.inl ⟨a, b, c, t, rfl, h1, h2, by omega, by omega, by omega, by omega, ?_⟩))
              rw [e, nxl, if_neg hb, nxl, if_neg hc, nxl]
              refine Prod.ext ?_ rfl
              simp only; omega
    · have e : nx (a :: t) = nxl 3 t 1 (a % 8) (lowOf a) (highOf a) := by rw [nx, if_neg h8, hf]; rfl
      have q1 := hlo a
      have q2 := hhi a
      match t with
      | [] => exact .inr (.inr (.inr (.inr ⟨1, by omega, by omega, by rw [e]; rfl⟩)))
      | b :: t =>
        by_cases hb : b < lowOf a ∨ highOf a < b
        · exact .inr (.inr (.inr (.inr ⟨1, by omega, by omega, by rw [e, nxl, if_pos hb]⟩)))
        · match t with
          | [] => exact .inr (.inr (.inr (.inr ⟨2, by omega, by omega, by rw [e, nxl, if_neg hb]; rfl⟩)))
          | c :: t =>
            by_cases hc : c < 128 ∨ 191 < c
            · exact .inr (.inr (.inr (.inr ⟨2, by omega, by omega, by rw [e, nxl, if_neg hb, nxl, if_pos hc]⟩)))
            · match t with
              | [] => exact .inr (.inr (.inr (.inr ⟨3, by omega, by omega, by rw [e, nxl, if_neg hb, nxl, if_neg hc]; rfl⟩)))
              | d :: t =>
                by_cases hd : d < 128 ∨ 191 < d
                · exact .inr (.inr (.inr (.inr ⟨3, by omega, by omega, by rw [e, nxl, if_neg hb, nxl, if_neg hc, nxl, if_pos hd]⟩)))
                · refine .inr (.inr (.inr (.inl ⟨a, b, c, d, t, rfl, h1, h2, by omega, by omega, by omega, by omega, by omega, by omega, ?_⟩)))
                  rw [e, nxl, if_neg hb, nxl, if_neg hc, nxl, if_neg hd, nxl]
                  refine Prod.ext ?_ rfl
                  simp only; omega

/-- What stands there is a scalar, or the sign; within bounds in every case. -/
theorem nx_scal (l : List Int) (h : l ≠ []) (hl : Bytes l) : scal (nx l).1 = true := by
  unfold scal
  rw [decide_eq_true_eq]
  rcases nx_inv l h hl with ⟨a, t, _, h0, h1, e⟩ | ⟨a, b, t, _, h1, h2, h3, h4, e⟩ | ⟨a, b, c, t, _, h1, h2, h3, h4, h5, h6, e⟩ | ⟨a, b, c, d, t, _, h1, h2, h3, h4, h5, h6, h7, h8, e⟩ | ⟨n, _, _, e⟩
  · rw [e]; simp only; omega
  · rw [e]; simp only; omega
  · rw [e]; simp only
    unfold lowOf at h3; unfold highOf at h4
    by_cases q1 : a = 224
    · subst q1; simp at h3 h4; omega
    · by_cases q2 : a = 237
      · subst q2; simp at h3 h4; omega
      · rw [if_neg q1, if_neg (by omega)] at h3; rw [if_neg q2, if_neg (by omega)] at h4; omega
  · rw [e]; simp only
    unfold lowOf at h3; unfold highOf at h4
    by_cases q1 : a = 240
    · subst q1; simp at h3 h4; omega
    · by_cases q2 : a = 244
      · subst q2; simp at h3 h4; omega
      · rw [if_neg (by omega), if_neg q1] at h3; rw [if_neg (by omega), if_neg q2] at h4; omega
  · rw [e]; simp only; omega
theorem nx_bd (l : List Int) (hl : Bytes l) : 0 ≤ (nx l).1 ∧ (nx l).1 ≤ 1114111 := by
  by_cases h : l = []
  · subst h; decide
  · have := nx_scal l h hl
    unfold scal at this
    rw [decide_eq_true_eq] at this
    omega
theorem toSc_nx (l : List Int) (hl : Bytes l) : (toSc (nx l)).1 = ((nx l).1, (nx l).2.2) := by
  unfold toSc; rw [dif_pos (nx_bd l hl)]
theorem ret_int {k : IntKind} {a b : Int} (h : a = b) : Ending.returned (.int k a) = .returned (.int k b) := by rw [h]
theorem ret_pair {k k' : IntKind} {a b c d : Int} (h : a = b) (g : c = d) : Ending.returned (.tuple #[.int k a, .int k' c]) = .returned (.tuple #[.int k b, .int k' d]) := by rw [h, g]
theorem ret_bool {a b : Bool} (h : a = b) : Ending.returned (.bool a) = .returned (.bool b) := by rw [h]

theorem ret_next {a b : Int} {n m : Int} {x y : Bool} (h : a = b) (g : n = m) (k : x = y) : Ending.returned (.tuple #[.int .i32 a, .int .i64 n, .bool x]) = .returned (.tuple #[.int .i32 b, .int .i64 m, .bool y]) := by rw [h, g, k]
theorem ret_nx {p q : Int × Nat × Bool} (h : p = q) : Ending.returned (.tuple #[.int .i32 p.1, .int .i64 p.2.1, .bool p.2.2]) = .returned (.tuple #[.int .i32 q.1, .int .i64 q.2.1, .bool q.2.2]) := by rw [h]
theorem toList_data (s : ByteArray) : s.toList = s.data.toList := ByteArray.toList_eq s
theorem isEmpty_false (s : ByteArray) (h : 0 < s.size) : s.toList.isEmpty = false := by
  rw [toList_data, ← Bool.not_eq_true, List.isEmpty_iff]; intro hh; have h2 := congrArg List.length hh; rw [Array.length_toList] at h2; have h3 : s.data.size = s.size := rfl; simp only [List.length_nil] at h2; omega
theorem isEmpty_true (s : ByteArray) (h : s.size = 0) : s.toList.isEmpty = true := by
  rw [toList_data, List.isEmpty_iff]; exact List.length_eq_zero_iff.1 (by simpa using h)
theorem low_bd (c : Int) : 128 ≤ lowOf c ∧ lowOf c ≤ 160 := by unfold lowOf; (repeat' split) <;> omega
theorem high_bd (c : Int) : 143 ≤ highOf c ∧ highOf c ≤ 191 := by unfold highOf; (repeat' split) <;> omega

abbrev encS (x : Sc) : Array Value := #[.int .i32 x.1.1, .bool x.1.2]
theorem bn_extract (s : ByteArray) (k : Nat) : bn (s.extract k s.size) = (bn s).drop k := by
  unfold bn
  rw [Lib.extract_to_end, List.map_drop]

/-- The code points that stand in bytes. -/
def dec (l : List Int) : List Int := (scl l).map fun x => x.1.1
def fsts (l : List Sc) : List Int := l.map fun x => x.1.1
theorem fsts_snoc (l : List Sc) (x : Sc) : fsts (l ++ [x]) = fsts l ++ [x.1.1] := by simp [fsts]
theorem fsts_len (l : List Sc) : (fsts l).length = l.length := by simp [fsts]
/-- Is all that stands in bytes whole? -/
def val (l : List Int) : Bool := (scl l).all fun x => x.1.2

/-- The bytes of a code point. -/
def enc (c : Int) : List Int :=
  if c < 128 then [c] else if c < 2048 then [192 + c / 64, 128 + c % 64] else if c < 65536 then [224 + c / 4096, 128 + c / 64 % 64, 128 + c % 64]
  else [240 + c / 262144, 128 + c / 4096 % 64, 128 + c / 64 % 64, 128 + c % 64]
theorem enc_len (c : Int) : 1 ≤ (enc c).length ∧ (enc c).length ≤ 4 := by unfold enc; (repeat' split) <;> simp
/-- The bytes of code points, one behind the other. -/
def encs (l : List Int) : List Int := l.flatMap enc
theorem encs_snoc (l : List Int) (x : Int) : encs (l ++ [x]) = encs l ++ enc x := by simp [encs]
theorem encs_len (l : List Int) : (encs l).length ≤ 4 * l.length := by
  induction l with
  | nil => simp [encs]
  | cons a t ih =>
    have := enc_len a
    simp only [encs, List.flatMap_cons, List.length_append, List.length_cons] at *
    omega

theorem enc_bytes (c : Int) (h0 : 0 ≤ c) (h1 : c ≤ 1114111) : Bytes (enc c) := by
  intro b hb
  unfold enc at hb
  by_cases q1 : c < 128
  · rw [if_pos q1] at hb; simp at hb; omega
  · rw [if_neg q1] at hb
    by_cases q2 : c < 2048
    · rw [if_pos q2] at hb; simp at hb; omega
    · rw [if_neg q2] at hb
      by_cases q3 : c < 65536
      · rw [if_pos q3] at hb; simp at hb; omega
      · rw [if_neg q3] at hb; simp at hb; omega
theorem encs_bytes (l : List Int) (h : ∀ c ∈ l, 0 ≤ c ∧ c ≤ 1114111) : Bytes (encs l) := by
  intro b hb
  obtain ⟨c, hc, hbc⟩ := List.mem_flatMap.1 hb
  exact enc_bytes c (h c hc).1 (h c hc).2 b hbc
theorem fsts_bd (l : List Sc) : ∀ c ∈ fsts l, 0 ≤ c ∧ c ≤ 1114111 := by
  intro c hc
  obtain ⟨x, _, rfl⟩ := List.mem_map.1 hc
  exact x.2
theorem bytes_back (ns : List Int) (h : Bytes ns) : (ns.map fun n => UInt8.ofNat n.toNat).map (fun c => (c.toNat : Int)) = ns := by
  rw [List.map_map]
  conv => rhs; rw [← List.map_id ns]
  apply List.map_congr_left
  intro a ha
  have := h a ha
  simp only [Function.comp, id, UInt8.toNat_ofNat']
  omega
theorem addr_add0 (g j : Nat) : ((⟨g, 0, none⟩ : Addr).add j) = ⟨g, j, none⟩ := by
  simp [Addr.add]; exact fun h => h.symm

theorem take_snoc_int (zs : List Int) (k : Nat) (h : k < zs.length) : zs.take (k + 1) = zs.take k ++ [zs[k]?.getD 0] := by
  rw [List.take_succ_eq_append_getElem h, List.getElem?_eq_getElem h]; rfl
theorem encs_take_snoc (zs : List Int) (k : Nat) (h : k < zs.length) : encs (zs.take (k + 1)) = encs (zs.take k) ++ enc (zs[k]?.getD 0) := by
  rw [take_snoc_int zs k h, encs_snoc]
theorem all_take_snoc (zs : List Int) (k : Nat) (h : k < zs.length) (ha : (zs.take k).all scal = true) (hs : scal (zs[k]?.getD 0) = true) : (zs.take (k + 1)).all scal = true := by
  rw [take_snoc_int zs k h, List.all_append, ha]; simp [hs]
theorem all_false (zs : List Int) (k : Nat) (h : k < zs.length) (hs : scal (zs[k]?.getD 0) = false) : zs.all scal = false := by
  rw [← List.take_append_drop (k + 1) zs, take_snoc_int zs k h, List.all_append, List.all_append]
  simp [hs]
theorem scal_bd {c : Int} (h : scal c = true) : 0 ≤ c ∧ c ≤ 1114111 := by
  unfold scal at h; rw [decide_eq_true_eq] at h; omega
theorem all_bd {zs : List Int} (h : zs.all scal = true) : ∀ c ∈ zs, 0 ≤ c ∧ c ≤ 1114111 := fun c hc => scal_bd (List.all_eq_true.1 h c hc)

/-- What utf.Encode answers. -/
def encR (zs : List Int) (t : ByteArray) (e : Int) : Prop := (zs.all scal = true ∧ e = 0 ∧ bn t = encs zs) ∨ (zs.all scal = false ∧ e = 2 ∧ t = ⟨#[]⟩)

theorem low_ge (c : Int) : 128 ≤ lowOf c := by unfold lowOf; (repeat' split) <;> omega
theorem high_le (c : Int) : highOf c ≤ 191 := by unfold highOf; (repeat' split) <;> omega

theorem nx_w1 (a : Int) (t : List Int) (h : a < 128) : nx (a :: t) = (a, 1, true) := by rw [nx, if_pos h]
theorem nx_w2 (a b : Int) (t : List Int) (h1 : 194 ≤ a) (h2 : a ≤ 223) (h3 : 128 ≤ b) (h4 : b ≤ 191) : nx (a :: b :: t) = ((a - 192) * 64 + (b - 128), 2, true) := by
  have hf : follow a = 1 := by unfold follow; rw [if_neg (by omega), if_neg (by omega), if_pos ⟨h1, h2⟩]
  have hl1 : lowOf a = 128 := by unfold lowOf; rw [if_neg (by omega), if_neg (by omega)]
  have hh1 : highOf a = 191 := by unfold highOf; rw [if_neg (by omega), if_neg (by omega)]
  have e : nx (a :: b :: t) = nxl 1 (b :: t) 1 (a % 32) 128 191 := by rw [nx, if_neg (by omega), hf, hl1, hh1]; rfl
  rw [e, nxl, if_neg (by omega), nxl]
  refine Prod.ext ?_ rfl
  simp only; omega
theorem nx_t2 (a : Int) (h1 : 194 ≤ a) (h2 : a ≤ 223) : nx [a] = (65533, 1, false) := by
  have hf : follow a = 1 := by unfold follow; rw [if_neg (by omega), if_neg (by omega), if_pos ⟨h1, h2⟩]
  rw [nx, if_neg (by omega), hf]; rfl
theorem nx_e3 (a : Int) (t : List Int) (h1 : 224 ≤ a) (h2 : a ≤ 239) : nx (a :: t) = nxl 2 t 1 (a % 16) (lowOf a) (highOf a) := by
  have hf : follow a = 2 := by unfold follow; rw [if_neg (by omega), if_pos ⟨h1, h2⟩]
  rw [nx, if_neg (by omega), hf]; rfl
theorem nx_w3 (a b c : Int) (t : List Int) (h1 : 224 ≤ a) (h2 : a ≤ 239) (h3 : lowOf a ≤ b) (h4 : b ≤ highOf a) (h5 : 128 ≤ c) (h6 : c ≤ 191) :
    nx (a :: b :: c :: t) = ((a - 224) * 4096 + (b - 128) * 64 + (c - 128), 3, true) := by
  have q1 := low_ge a
  have q2 := high_le a
  rw [nx_e3 a _ h1 h2, nxl, if_neg (by omega), nxl, if_neg (by omega), nxl]
  refine Prod.ext ?_ rfl
  simp only; omega
theorem nx_e4 (a : Int) (t : List Int) (h1 : 240 ≤ a) (h2 : a ≤ 244) : nx (a :: t) = nxl 3 t 1 (a % 8) (lowOf a) (highOf a) := by
  have hf : follow a = 3 := by unfold follow; rw [if_pos ⟨h1, h2⟩]
  rw [nx, if_neg (by omega), hf]; rfl
theorem nx_w4 (a b c d : Int) (t : List Int) (h1 : 240 ≤ a) (h2 : a ≤ 244) (h3 : lowOf a ≤ b) (h4 : b ≤ highOf a) (h5 : 128 ≤ c) (h6 : c ≤ 191) (h7 : 128 ≤ d) (h8 : d ≤ 191) :
    nx (a :: b :: c :: d :: t) = ((a - 240) * 262144 + (b - 128) * 4096 + (c - 128) * 64 + (d - 128), 4, true) := by
  have q1 := low_ge a
  have q2 := high_le a
  rw [nx_e4 a _ h1 h2, nxl, if_neg (by omega), nxl, if_neg (by omega), nxl, if_neg (by omega), nxl]
  refine Prod.ext ?_ rfl
  simp only; omega

/-- What is whole at the front stays there, whatever stands behind it; its bytes are its own; what is cut through is a sign. -/
theorem nx_whole (l : List Int) (h : l ≠ []) (hl : Bytes l) (hw : (nx l).2.2 = true) :
    (∀ r, nx (l ++ r) = nx l) ∧ enc (nx l).1 = l.take (nx l).2.1 ∧ (∀ n, (nx l).2.1 ≤ n → nx (l.take n) = nx l) ∧ (∀ n, 0 < n → n < (nx l).2.1 → nx (l.take n) = (65533, n, false)) := by
  rcases nx_inv l h hl with ⟨a, t, rfl, h0, h1, e⟩ | ⟨a, b, t, rfl, h1, h2, h3, h4, e⟩ | ⟨a, b, c, t, rfl, h1, h2, h3, h4, h5, h6, e⟩ | ⟨a, b, c, d, t, rfl, h1, h2, h3, h4, h5, h6, h7, h8, e⟩ | ⟨n, _, _, e⟩
  · rw [e]
    refine ⟨fun r => nx_w1 a _ h1, ?_, ?_, ?_⟩
    · simp only; unfold enc; rw [if_pos h1]; rfl
    · intro n hn
      obtain ⟨m, rfl⟩ : ∃ m, n = m + 1 := ⟨n - 1, by simp only at hn; omega⟩
      exact nx_w1 a _ h1
    · intro n h0 hn; simp only at hn; omega
  · rw [e]
    refine ⟨fun r => nx_w2 a b _ h1 h2 h3 h4, ?_, ?_, ?_⟩
    · simp only; unfold enc; rw [if_neg (by omega), if_pos (by omega)]
      have e1 : 192 + ((a - 192) * 64 + (b - 128)) / 64 = a := by omega
      have e2 : 128 + ((a - 192) * 64 + (b - 128)) % 64 = b := by omega
      rw [e1, e2]; rfl
    · intro n hn
      obtain ⟨m, rfl⟩ : ∃ m, n = m + 2 := ⟨n - 2, by simp only at hn; omega⟩
      exact nx_w2 a b _ h1 h2 h3 h4
    · intro n h0 hn
      obtain rfl : n = 1 := by simp only at hn; omega
      exact nx_t2 a h1 h2
  · have q1 := low_ge a
    have q2 := high_le a
    rw [e]
    refine ⟨fun r => nx_w3 a b c _ h1 h2 h3 h4 h5 h6, ?_, ?_, ?_⟩
    · have hlo : a = 224 → 160 ≤ b := fun ha => by subst ha; exact h3
      simp only; unfold enc; rw [if_neg (by omega), if_neg (by omega), if_pos (by omega)]
      have e1 : 224 + ((a - 224) * 4096 + (b - 128) * 64 + (c - 128)) / 4096 = a := by omega
      have e2 : 128 + ((a - 224) * 4096 + (b - 128) * 64 + (c - 128)) / 64 % 64 = b := by omega
      have e3 : 128 + ((a - 224) * 4096 + (b - 128) * 64 + (c - 128)) % 64 = c := by omega
      rw [e1, e2, e3]; rfl
    · intro n hn
      obtain ⟨m, rfl⟩ : ∃ m, n = m + 3 := ⟨n - 3, by simp only at hn; omega⟩
      exact nx_w3 a b c _ h1 h2 h3 h4 h5 h6
    · intro n h0 hn
      have : n = 1 ∨ n = 2 := by simp only at hn; omega
      rcases this with rfl | rfl
      · show nx [a] = _
        rw [nx_e3 a _ h1 h2]; rfl
      · show nx [a, b] = _
        rw [nx_e3 a _ h1 h2, nxl, if_neg (by omega)]; rfl
  · have q1 := low_ge a
    have q2 := high_le a
    rw [e]
    refine ⟨fun r => nx_w4 a b c d _ h1 h2 h3 h4 h5 h6 h7 h8, ?_, ?_, ?_⟩
    · have hlo : a = 240 → 144 ≤ b := fun ha => by subst ha; exact h3
      simp only; unfold enc; rw [if_neg (by omega), if_neg (by omega), if_neg (by omega)]
      have e1 : 240 + ((a - 240) * 262144 + (b - 128) * 4096 + (c - 128) * 64 + (d - 128)) / 262144 = a := by omega
      have e2 : 128 + ((a - 240) * 262144 + (b - 128) * 4096 + (c - 128) * 64 + (d - 128)) / 4096 % 64 = b := by omega
      have e3 : 128 + ((a - 240) * 262144 + (b - 128) * 4096 + (c - 128) * 64 + (d - 128)) / 64 % 64 = c := by omega
      have e4 : 128 + ((a - 240) * 262144 + (b - 128) * 4096 + (c - 128) * 64 + (d - 128)) % 64 = d := by omega
      rw [e1, e2, e3, e4]; rfl
    · intro n hn
      obtain ⟨m, rfl⟩ : ∃ m, n = m + 4 := ⟨n - 4, by simp only at hn; omega⟩
      exact nx_w4 a b c d _ h1 h2 h3 h4 h5 h6 h7 h8
    · intro n h0 hn
      have : n = 1 ∨ n = 2 ∨ n = 3 := by simp only at hn; omega
      rcases this with rfl | rfl | rfl
      · show nx [a] = _
        rw [nx_e4 a _ h1 h2]; rfl
      · show nx [a, b] = _
        rw [nx_e4 a _ h1 h2, nxl, if_neg (by omega)]; rfl
      · show nx [a, b, c] = _
        rw [nx_e4 a _ h1 h2, nxl, if_neg (by omega), nxl, if_neg (by omega)]; rfl
  · rw [e] at hw; simp at hw

/-- What is written is what stands there. -/
theorem nx_enc (c : Int) (h : scal c = true) (t : List Int) : nx (enc c ++ t) = (c, (enc c).length, true) := by
  unfold scal at h
  rw [decide_eq_true_eq] at h
  unfold enc
  by_cases q1 : c < 128
  · rw [if_pos q1]; exact nx_w1 c t q1
  · rw [if_neg q1]
    by_cases q2 : c < 2048
    · rw [if_pos q2]
      show nx ((192 + c / 64) :: (128 + c % 64) :: t) = (c, 2, true)
      rw [nx_w2 _ _ _ (by omega) (by omega) (by omega) (by omega)]
      refine Prod.ext ?_ rfl
      simp only; omega
    · rw [if_neg q2]
      by_cases q3 : c < 65536
      · rw [if_pos q3]
        show nx ((224 + c / 4096) :: (128 + c / 64 % 64) :: (128 + c % 64) :: t) = (c, 3, true)
        rw [nx_w3 _ _ _ _ (by omega) (by omega) ?_ ?_ (by omega) (by omega)]
        · refine Prod.ext ?_ rfl
          simp only; omega
        · unfold lowOf
          by_cases g : 224 + c / 4096 = 224
          · rw [if_pos g]; omega
          · rw [if_neg g, if_neg (by omega)]; omega
        · unfold highOf
          by_cases g : 224 + c / 4096 = 237
          · rw [if_pos g]; omega
          · rw [if_neg g, if_neg (by omega)]; omega
      · rw [if_neg q3]
        show nx ((240 + c / 262144) :: (128 + c / 4096 % 64) :: (128 + c / 64 % 64) :: (128 + c % 64) :: t) = (c, 4, true)
        rw [nx_w4 _ _ _ _ _ (by omega) (by omega) ?_ ?_ (by omega) (by omega) (by omega) (by omega)]
        · refine Prod.ext ?_ rfl
          simp only; omega
        · unfold lowOf
          by_cases g : 240 + c / 262144 = 240
          · rw [if_neg (by omega), if_pos g]; omega
          · rw [if_neg (by omega), if_neg g]; omega
        · unfold highOf
          by_cases g : 240 + c / 262144 = 244
          · rw [if_neg (by omega), if_pos g]; omega
          · rw [if_neg (by omega), if_neg g]; omega

theorem dec_cons (l : List Int) (h : l ≠ []) (hl : Bytes l) : dec l = (nx l).1 :: dec (l.drop (nx l).2.1) := by
  unfold dec
  rw [scl_cons l h, List.map_cons, toSc_nx l hl]
theorem val_cons (l : List Int) (h : l ≠ []) (hl : Bytes l) : val l = ((nx l).2.2 && val (l.drop (nx l).2.1)) := by
  unfold val
  rw [scl_cons l h, List.all_cons, toSc_nx l hl]
theorem dec_nil : dec [] = [] := rfl
theorem val_nil : val [] = true := rfl

theorem dec_scal : ∀ (n : Nat) (l : List Int), l.length ≤ n → Bytes l → (dec l).all scal = true
  | 0, l, h, _ => by obtain rfl := List.length_eq_zero_iff.1 (show l.length = 0 by omega); rfl
  | n + 1, l, h, hl => by
    by_cases hne : l = []
    · subst hne; rfl
    · have hn := nx_n l hne
      rw [dec_cons l hne hl, List.all_cons, nx_scal l hne hl, dec_scal n _ (by rw [List.length_drop]; omega) (hl.drop _)]; rfl
theorem dec_len : ∀ (n : Nat) (l : List Int), l.length ≤ n → Bytes l → (dec l).length ≤ l.length
  | 0, l, h, _ => by obtain rfl := List.length_eq_zero_iff.1 (show l.length = 0 by omega); exact Nat.le_refl _
  | n + 1, l, h, hl => by
    by_cases hne : l = []
    · subst hne; exact Nat.le_refl _
    · have hn := nx_n l hne
      have := dec_len n (l.drop (nx l).2.1) (by rw [List.length_drop]; omega) (hl.drop _)
      rw [List.length_drop] at this
      rw [dec_cons l hne hl, List.length_cons]; omega

theorem dec_app : ∀ (n : Nat) (l r : List Int), l.length ≤ n → Bytes l → Bytes r → val l = true → dec (l ++ r) = dec l ++ dec r
  | 0, l, r, h, _, _, _ => by obtain rfl := List.length_eq_zero_iff.1 (show l.length = 0 by omega); rfl
  | n + 1, l, r, h, hl, hr, hv => by
    by_cases hne : l = []
    · subst hne; rfl
    · have hn := nx_n l hne
      rw [val_cons l hne hl, Bool.and_eq_true] at hv
      have hlr : Bytes (l ++ r) := fun b hb => (List.mem_append.1 hb).elim (hl b) (hr b)
      have hw := (nx_whole l hne hl hv.1).1 r
      rw [dec_cons (l ++ r) (by simp [hne]) hlr, hw, List.drop_append_of_le_length hn.2, dec_app n (l.drop (nx l).2.1) r (by rw [List.length_drop]; omega) (hl.drop _) hr hv.2, dec_cons l hne hl]
      rfl

theorem back : ∀ (zs : List Int), zs.all scal = true → dec (encs zs) = zs ∧ val (encs zs) = true
  | [], _ => ⟨rfl, rfl⟩
  | c :: t, h => by
    rw [List.all_cons, Bool.and_eq_true] at h
    have ih := back t h.2
    have e : encs (c :: t) = enc c ++ encs t := by simp [encs]
    have hx := nx_enc c h.1 (encs t)
    have hlen := enc_len c
    have hne : enc c ++ encs t ≠ [] := fun hh => by have := congrArg List.length hh; rw [List.length_append, List.length_nil] at this; omega
    have hb : Bytes (enc c ++ encs t) := fun b hb => (List.mem_append.1 hb).elim (enc_bytes c (by have := h.1; unfold scal at this; rw [decide_eq_true_eq] at this; omega) (by have := h.1; unfold scal at this; rw [decide_eq_true_eq] at this; omega) b) (encs_bytes t (fun c hc => by have := List.all_eq_true.1 h.2 c hc; unfold scal at this; rw [decide_eq_true_eq] at this; omega) b)
    have hd : (enc c ++ encs t).drop (enc c).length = encs t := by simp
    rw [e, dec_cons _ hne hb, val_cons _ hne hb, hx]
    simp only [hd, ih.1, ih.2]
    exact ⟨trivial, rfl⟩

theorem clean_of_val : ∀ (n : Nat) (l : List Int), l.length ≤ n → Bytes l → val l = true → encs (dec l) = l
  | 0, l, h, _, _ => by obtain rfl := List.length_eq_zero_iff.1 (show l.length = 0 by omega); rfl
  | n + 1, l, h, hl, hv => by
    by_cases hne : l = []
    · subst hne; rfl
    · have hn := nx_n l hne
      rw [val_cons l hne hl, Bool.and_eq_true] at hv
      have hw := (nx_whole l hne hl hv.1).2.1
      have ih := clean_of_val n (l.drop (nx l).2.1) (by rw [List.length_drop]; omega) (hl.drop _) hv.2
      rw [dec_cons l hne hl]
      show enc _ ++ encs _ = l
      rw [hw, ih, List.take_append_drop]

/-- What becomes of a valid text that is cut. -/
theorem cut : ∀ (k : Nat) (l : List Int) (n : Nat), l.length ≤ k → Bytes l → val l = true →
    (dec (l.take n)).length ≤ (dec l).length ∧ ∀ i, i < (dec (l.take n)).length → (dec (l.take n))[i]?.getD 0 = (dec l)[i]?.getD 0 ∨ (i + 1 = (dec (l.take n)).length ∧ (dec (l.take n))[i]?.getD 0 = 65533 ∧ val (l.take n) = false)
  | 0, l, n, h, _, _ => by
    obtain rfl := List.length_eq_zero_iff.1 (show l.length = 0 by omega)
    rw [List.take_nil]
    exact ⟨Nat.le_refl _, fun i hi => .inl rfl⟩
  | k + 1, l, n, h, hl, hv => by
    by_cases hne : l = []
    · subst hne; rw [List.take_nil]; exact ⟨Nat.le_refl _, fun i hi => .inl rfl⟩
    by_cases h0 : n = 0
    · subst h0
      rw [List.take_zero, dec_nil]
      exact ⟨by simp, fun i hi => by simp at hi⟩
    · have hn := nx_n l hne
      rw [val_cons l hne hl, Bool.and_eq_true] at hv
      obtain ⟨_, _, w3, w4⟩ := nx_whole l hne hl hv.1
      have htne : l.take n ≠ [] := fun hh => by have := congrArg List.length hh; rw [List.length_take, List.length_nil] at this; omega
      by_cases hlt : (nx l).2.1 ≤ n
      · have e := w3 n hlt
        have ih := cut k (l.drop (nx l).2.1) (n - (nx l).2.1) (by rw [List.length_drop]; omega) (hl.drop _) hv.2
        have ed : (l.take n).drop (nx l).2.1 = (l.drop (nx l).2.1).take (n - (nx l).2.1) := List.drop_take
        rw [dec_cons _ htne (hl.take n), dec_cons l hne hl, val_cons _ htne (hl.take n), e, ed, hv.1]
        refine ⟨by simp only [List.length_cons]; omega, fun i hi => ?_⟩
        match i with
        | 0 => exact .inl rfl
        | i + 1 =>
          simp only [List.length_cons] at hi
          rcases ih.2 i (by omega) with q | ⟨q1, q2, q3⟩
          · exact .inl (by simpa using q)
          · exact .inr ⟨by simp only [List.length_cons]; omega, by simpa using q2, by rw [q3]; rfl⟩
      · have e := w4 n (by omega) (by omega)
        have ed : (l.take n).drop n = [] := by rw [List.drop_eq_nil_iff, List.length_take]; omega
        rw [dec_cons _ htne (hl.take n), dec_cons l hne hl, val_cons _ htne (hl.take n), e]
        simp only [ed, dec_nil]
        refine ⟨by simp, fun i hi => .inr ⟨?_, ?_, rfl⟩⟩
        · simp at hi; simp; omega
        · simp at hi; subst hi; rfl
end Go.Proofs.YtphkdagapoonjaaDoor.U
