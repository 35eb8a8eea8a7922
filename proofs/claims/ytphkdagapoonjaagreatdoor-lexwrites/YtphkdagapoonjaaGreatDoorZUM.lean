/- The plain functions of which the contracts speak: what stands at the front of bytes; Contracts of the small functions of package utf; The contract of utf.Next: what it answers is what stands at the front; What stands in bytes, one behind the other, and its first facts. -/
import Derived.WalkKit
import Derived.Test.YtphkdagapoonjaaGreatDoorProg
import Derived.WalkSpells
import Derived.WalkLawsBesides
import Derived.Deep.QuietTactic
import Derived.BigQuiet
import Derived.RegionTactic
namespace Go.Proofs.YtphkdagapoonjaaGreatDoor.U
open Go.RowKit

def follow (c : Int) : Int := if 240 ≤ c ∧ c ≤ 244 then 3 else if 224 ≤ c ∧ c ≤ 239 then 2 else if 194 ≤ c ∧ c ≤ 223 then 1 else 0
def lowOf (c : Int) : Int := if c = 224 then 160 else if c = 240 then 144 else 128
def highOf (c : Int) : Int := if c = 237 then 159 else if c = 244 then 143 else 191
def scal (c : Int) : Bool := decide (0 ≤ c ∧ c ≤ 1114111 ∧ (c < 55296 ∨ 57343 < c))

/-- The bytes of a string, as numbers. -/
def bn (s : ByteArray) : List Int := s.data.toList.map fun c => (c.toNat : Int)

/-- The bytes behind the first, one by one: f of them are still to come, n have come, r is what they tell, lo and hi bound the next. -/
def nxl : Nat → List Int → Nat → Int → Int → Int → Int × Nat × Bool
  | 0, _, n, r, _, _ => (r, n, true)
  | _ + 1, [], n, _, _, _ => (65533, n, false)
  | f + 1, b :: t, n, r, lo, hi => if b < lo ∨ hi < b then (65533, n, false) else nxl f t (n + 1) (r * 64 + b % 64) 128 191

/-- What stands at the front. -/
def nx : List Int → Int × Nat × Bool
  | [] => (0, 0, false)
  | a :: t => if a < 128 then (a, 1, true) else if follow a = 0 then (65533, 1, false) else
      nxl (follow a).toNat t 1 (if follow a = 1 then a % 32 else if follow a = 2 then a % 16 else a % 8) (lowOf a) (highOf a)

theorem bn_length (s : ByteArray) : (bn s).length = s.size := by simp [bn]
theorem bn_drop (s : ByteArray) (k : Nat) (h : k < s.size) : (bn s).drop k = (s[k].toNat : Int) :: (bn s).drop (k + 1) := by
  have h' : k < (bn s).length := by rw [bn_length]; exact h
  rw [List.drop_eq_getElem_cons h']
  congr 1
  simp [bn]; rfl
theorem bn_drop_nil (s : ByteArray) (k : Nat) (h : s.size ≤ k) : (bn s).drop k = [] := by
  rw [List.drop_eq_nil_iff, bn_length]; exact h
theorem bn_cons (s : ByteArray) (h : 0 < s.size) : bn s = (s[0].toNat : Int) :: (bn s).drop 1 := by
  have := bn_drop s 0 h; simpa using this

theorem nxl_stop (s : ByteArray) (f k : Nat) (r lo hi : Int) (h : s.size ≤ k) : nxl (f + 1) ((bn s).drop k) k r lo hi = (65533, k, false) := by
  rw [bn_drop_nil s k h]; rfl
theorem nxl_bad (s : ByteArray) (f k : Nat) (r lo hi : Int) (h : k < s.size) (hb : (s[k].toNat : Int) < lo ∨ hi < (s[k].toNat : Int)) : nxl (f + 1) ((bn s).drop k) k r lo hi = (65533, k, false) := by
  rw [bn_drop s k h, nxl, if_pos hb]
theorem nxl_good (s : ByteArray) (f k : Nat) (r lo hi : Int) (h : k < s.size) (hb : lo ≤ (s[k].toNat : Int)) (hc : (s[k].toNat : Int) ≤ hi) :
    nxl (f + 1) ((bn s).drop k) k r lo hi = nxl f ((bn s).drop (k + 1)) (k + 1) (r * 64 + (s[k].toNat : Int) % 64) 128 191 := by
  rw [bn_drop s k h, nxl, if_neg (by omega)]

theorem nx_nil (s : ByteArray) (h : s.size = 0) : nx (bn s) = (0, 0, false) := by
  have : bn s = [] := List.length_eq_zero_iff.1 (by rw [bn_length]; exact h)
  rw [this]; rfl
theorem nx_ascii (s : ByteArray) (h : 0 < s.size) (ha : (s[0].toNat : Int) < 128) : nx (bn s) = ((s[0].toNat : Int), 1, true) := by
  rw [bn_cons s h, nx, if_pos ha]
theorem nx_none (s : ByteArray) (h : 0 < s.size) (ha : 128 ≤ (s[0].toNat : Int)) (hf : follow (s[0].toNat : Int) = 0) : nx (bn s) = (65533, 1, false) := by
  rw [bn_cons s h, nx, if_neg (by omega), if_pos hf]
theorem nx_some (s : ByteArray) (h : 0 < s.size) (ha : 128 ≤ (s[0].toNat : Int)) (m : Nat) (d : Int) (hf : follow (s[0].toNat : Int) = m) (hm : m = 1 ∧ d = 32 ∨ m = 2 ∧ d = 16 ∨ m = 3 ∧ d = 8) :
    nx (bn s) = nxl m ((bn s).drop 1) 1 ((s[0].toNat : Int) % d) (lowOf (s[0].toNat : Int)) (highOf (s[0].toNat : Int)) := by
  rw [bn_cons s h, nx, if_neg (by omega), hf, if_neg (by omega)]
  rcases hm with ⟨rfl, rfl⟩ | ⟨rfl, rfl⟩ | ⟨rfl, rfl⟩ <;> rfl
theorem follow_cases (c : Int) : (follow c = 0) ∨ (follow c = 1 ∧ 194 ≤ c ∧ c ≤ 223) ∨ (follow c = 2 ∧ 224 ≤ c ∧ c ≤ 239) ∨ (follow c = 3 ∧ 240 ≤ c ∧ c ≤ 244) := by
  unfold follow
  by_cases h3 : 240 ≤ c ∧ c ≤ 244
  · rw [if_pos h3]; omega
  · rw [if_neg h3]
    by_cases h2 : 224 ≤ c ∧ c ≤ 239
    · rw [if_pos h2]; omega
    · rw [if_neg h2]
      by_cases h1 : 194 ≤ c ∧ c ≤ 223
      · rw [if_pos h1]; omega
      · rw [if_neg h1]; omega
end Go.Proofs.YtphkdagapoonjaaGreatDoor.U
namespace Go.Proofs.YtphkdagapoonjaaGreatDoor.U
open Go.RowKit

theorem ret_int {k : IntKind} {a b : Int} (h : a = b) : Ending.returned (.int k a) = .returned (.int k b) := by rw [h]
theorem ret_pair {k k' : IntKind} {a b c d : Int} (h : a = b) (g : c = d) : Ending.returned (.tuple #[.int k a, .int k' c]) = .returned (.tuple #[.int k b, .int k' d]) := by rw [h, g]
theorem ret_bool {a b : Bool} (h : a = b) : Ending.returned (.bool a) = .returned (.bool b) := by rw [h]

end Go.Proofs.YtphkdagapoonjaaGreatDoor.U
namespace Go.Proofs.YtphkdagapoonjaaGreatDoor.U
open Go.RowKit

theorem ret_next {a b : Int} {n m : Int} {x y : Bool} (h : a = b) (g : n = m) (k : x = y) : Ending.returned (.tuple #[.int .i32 a, .int .i64 n, .bool x]) = .returned (.tuple #[.int .i32 b, .int .i64 m, .bool y]) := by rw [h, g, k]
theorem ret_nx {p q : Int × Nat × Bool} (h : p = q) : Ending.returned (.tuple #[.int .i32 p.1, .int .i64 p.2.1, .bool p.2.2]) = .returned (.tuple #[.int .i32 q.1, .int .i64 q.2.1, .bool q.2.2]) := by rw [h]
theorem toList_data (s : ByteArray) : s.toList = s.data.toList := ByteArray.toList_eq s
theorem isEmpty_false (s : ByteArray) (h : 0 < s.size) : s.toList.isEmpty = false := by
  rw [toList_data, ← Bool.not_eq_true, List.isEmpty_iff]; intro hh; have h2 := congrArg List.length hh; rw [Array.length_toList] at h2; have h3 : s.data.size = s.size := rfl; simp only [List.length_nil] at h2; omega
theorem isEmpty_true (s : ByteArray) (h : s.size = 0) : s.toList.isEmpty = true := by
  rw [toList_data, List.isEmpty_iff]; exact List.length_eq_zero_iff.1 (by simpa using h)
theorem low_bd (c : Int) : 128 ≤ lowOf c ∧ lowOf c ≤ 160 := by unfold lowOf; (repeat' split) <;> omega
theorem high_bd (c : Int) : 143 ≤ highOf c ∧ highOf c ≤ 191 := by unfold highOf; (repeat' split) <;> omega

end Go.Proofs.YtphkdagapoonjaaGreatDoor.U
namespace Go.Proofs.YtphkdagapoonjaaGreatDoor.U
open Go.RowKit

/-- What an iteration hands over: a code point within bounds, and whether it is whole. -/
abbrev Sc := { x : Int × Bool // 0 ≤ x.1 ∧ x.1 ≤ 1114111 }
def toSc (p : Int × Nat × Bool) : Sc := if h : 0 ≤ p.1 ∧ p.1 ≤ 1114111 then ⟨(p.1, p.2.2), h⟩ else ⟨(65533, false), by decide⟩
def scs : Nat → List Int → List Sc
  | 0, _ => []
  | _ + 1, [] => []
  | f + 1, a :: t => toSc (nx (a :: t)) :: scs f ((a :: t).drop (nx (a :: t)).2.1)
def scl (l : List Int) : List Sc := scs l.length l
def Bytes (l : List Int) : Prop := ∀ b ∈ l, 0 ≤ b ∧ b ≤ 255

theorem nxl_n : ∀ (f : Nat) (t : List Int) (n : Nat) (r lo hi : Int), n ≤ (nxl f t n r lo hi).2.1 ∧ (nxl f t n r lo hi).2.1 ≤ n + t.length
  | 0, _, _, _, _, _ => by simp [nxl]
  | _ + 1, [], _, _, _, _ => by simp [nxl]
  | f + 1, b :: t, n, r, lo, hi => by
    rw [nxl]
    split
    · simp
    · have := nxl_n f t (n + 1) (r * 64 + b % 64) 128 191
      simp only [List.length_cons]; omega
theorem nx_n (l : List Int) (h : l ≠ []) : 1 ≤ (nx l).2.1 ∧ (nx l).2.1 ≤ l.length := by
  match l with
  | [] => exact absurd rfl h
  | a :: t =>
    rw [nx]
    split
    · simp
    · split
      · simp
      · have := nxl_n (follow a).toNat t 1 (if follow a = 1 then a % 32 else if follow a = 2 then a % 16 else a % 8) (lowOf a) (highOf a)
        simp only [List.length_cons]; omega

theorem scs_same : ∀ (f g : Nat) (l : List Int), l.length ≤ f → l.length ≤ g → scs f l = scs g l
  | 0, 0, _, _, _ => rfl
  | 0, _ + 1, [], _, _ => rfl
  | 0, _ + 1, _ :: _, h, _ => by simp at h
  | _ + 1, 0, [], _, _ => rfl
  | _ + 1, 0, _ :: _, _, h => by simp at h
  | _ + 1, _ + 1, [], _, _ => rfl
  | f + 1, g + 1, a :: t, h, k => by
    have hn := nx_n (a :: t) (by simp)
    have hlen : ((a :: t).drop (nx (a :: t)).2.1).length ≤ t.length := by simp only [List.length_drop, List.length_cons]; omega
    simp only [List.length_cons] at h k
    show toSc (nx (a :: t)) :: scs f _ = toSc (nx (a :: t)) :: scs g _
    rw [scs_same f g _ (by omega) (by omega)]
theorem scs_fuel (f : Nat) (l : List Int) (h : l.length ≤ f) : scs f l = scl l := scs_same f l.length l h (Nat.le_refl _)
theorem scl_nil : scl [] = [] := rfl
theorem scl_cons (l : List Int) (h : l ≠ []) : scl l = toSc (nx l) :: scl (l.drop (nx l).2.1) := by
  match l with
  | [] => exact absurd rfl h
  | a :: t =>
    have hn := nx_n (a :: t) (by simp)
    show toSc (nx (a :: t)) :: scs t.length _ = _
    rw [scs_fuel t.length _ (by simp only [List.length_drop, List.length_cons]; omega)]

theorem bn_bytes (s : ByteArray) : Bytes (bn s) := by
  intro b hb
  simp only [bn, List.mem_map] at hb
  obtain ⟨c, _, rfl⟩ := hb
  have := c.toNat_lt
  omega
theorem Bytes.drop {l : List Int} (h : Bytes l) (k : Nat) : Bytes (l.drop k) := fun b hb => h b (List.mem_of_mem_drop hb)
theorem Bytes.take {l : List Int} (h : Bytes l) (k : Nat) : Bytes (l.take k) := fun b hb => h b (List.mem_of_mem_take hb)

/-- The five ways in which something may stand at the front. -/
theorem nx_inv (l : List Int) (h : l ≠ []) (hl : Bytes l) :
    (∃ a t, l = a :: t ∧ 0 ≤ a ∧ a < 128 ∧ nx l = (a, 1, true)) ∨
    (∃ a b t, l = a :: b :: t ∧ 194 ≤ a ∧ a ≤ 223 ∧ 128 ≤ b ∧ b ≤ 191 ∧ nx l = ((a - 192) * 64 + (b - 128), 2, true)) ∨
    (∃ a b c t, l = a :: b :: c :: t ∧ 224 ≤ a ∧ a ≤ 239 ∧ lowOf a ≤ b ∧ b ≤ highOf a ∧ 128 ≤ c ∧ c ≤ 191 ∧ nx l = ((a - 224) * 4096 + (b - 128) * 64 + (c - 128), 3, true)) ∨
    (∃ a b c d t, l = a :: b :: c :: d :: t ∧ 240 ≤ a ∧ a ≤ 244 ∧ lowOf a ≤ b ∧ b ≤ highOf a ∧ 128 ≤ c ∧ c ≤ 191 ∧ 128 ≤ d ∧ d ≤ 191 ∧ nx l = ((a - 240) * 262144 + (b - 128) * 4096 + (c - 128) * 64 + (d - 128), 4, true)) ∨
    (∃ n, 1 ≤ n ∧ n ≤ 3 ∧ nx l = (65533, n, false)) := by
  have hlo : ∀ c, 128 ≤ lowOf c := fun c => by unfold lowOf; (repeat' split) <;> omega
  have hhi : ∀ c, highOf c ≤ 191 := fun c => by unfold highOf; (repeat' split) <;> omega
  match l with
  | [] => exact absurd rfl h
  | a :: t =>
    have ha := hl a (by simp)
    by_cases h8 : a < 128
    · exact .inl ⟨a, t, rfl, ha.1, h8, by rw [nx, if_pos h8]⟩
    rcases follow_cases a with hf | ⟨hf, h1, h2⟩ | ⟨hf, h1, h2⟩ | ⟨hf, h1, h2⟩
    · exact .inr (.inr (.inr (.inr ⟨1, by omega, by omega, by rw [nx, if_neg h8, if_pos hf]⟩)))
    · have hl1 : lowOf a = 128 := by unfold lowOf; rw [if_neg (by omega), if_neg (by omega)]
      have hh1 : highOf a = 191 := by unfold highOf; rw [if_neg (by omega), if_neg (by omega)]
      have e : nx (a :: t) = nxl 1 t 1 (a % 32) 128 191 := by rw [nx, if_neg h8, hf, hl1, hh1]; rfl
      match t with
      | [] => exact .inr (.inr (.inr (.inr ⟨1, by omega, by omega, by rw [e]; rfl⟩)))
      | b :: t =>
        by_cases hb : b < 128 ∨ 191 < b
        · exact .inr (.inr (.inr (.inr ⟨1, by omega, by omega, by rw [e, nxl, if_pos hb]⟩)))
        · refine .inr (.inl ⟨a, b, t, rfl, h1, h2, by omega, by omega, ?_⟩)
          rw [e, nxl, if_neg hb, nxl]
          refine Prod.ext ?_ rfl
          simp only; omega
    · have e : nx (a :: t) = nxl 2 t 1 (a % 16) (lowOf a) (highOf a) := by rw [nx, if_neg h8, hf]; rfl
      have q1 := hlo a
      have q2 := hhi a
      match t with
      | [] => exact .inr (.inr (.inr (.inr ⟨1, by omega, by omega, by rw [e]; rfl⟩)))
      | b :: t =>
        by_cases hb : b < lowOf a ∨ highOf a < b
        · exact .inr (.inr (.inr (.inr ⟨1, by omega, by omega, by rw [e, nxl, if_pos hb]⟩)))
        · match t with
          | [] => exact .inr (.inr (.inr (.inr ⟨2, by omega, by omega, by rw [e, nxl, if_neg hb]; rfl⟩)))
          | c :: t =>
            by_cases hc : c < 128 ∨ 191 < c
            · exact .inr (.inr (.inr (.inr ⟨2, by omega, by omega, by rw [e, nxl, if_neg hb, nxl, if_pos hc]⟩)))
            · refine .inr (.inr (.inl ⟨a, b, c, t, rfl, h1, h2, by omega, by omega, by omega, by omega, ?_⟩))
              rw [e, nxl, if_neg hb, nxl, if_neg hc, nxl]
              refine Prod.ext ?_ rfl
              simp only; omega
    · have e : nx (a :: t) = nxl 3 t 1 (a % 8) (lowOf a) (highOf a) := by rw [nx, if_neg h8, hf]; rfl
      have q1 := hlo a
      have q2 := hhi a
      match t with
      | [] => exact .inr (.inr (.inr (.inr ⟨1, by omega, by omega, by rw [e]; rfl⟩)))
      | b :: t =>
        by_cases hb : b < lowOf a ∨ highOf a < b
        · exact .inr (.inr (.inr (.inr ⟨1, by omega, by omega, by rw [e, nxl, if_pos hb]⟩)))
        · match t with
          | [] => exact .inr (.inr (.inr (.inr ⟨2, by omega, by omega, by rw [e, nxl, if_neg hb]; rfl⟩)))
          | c :: t =>
            by_cases hc : c < 128 ∨ 191 < c
            · exact .inr (.inr (.inr (.inr ⟨2, by omega, by omega, by rw [e, nxl, if_neg hb, nxl, if_pos hc]⟩)))
            · match t with
              | [] => exact .inr (.inr (.inr (.inr ⟨3, by omega, by omega, by rw [e, nxl, if_neg hb, nxl, if_neg hc]; rfl⟩)))
              | d :: t =>
                by_cases hd : d < 128 ∨ 191 < d
                · exact .inr (.inr (.inr (.inr ⟨3, by omega, by omega, by rw [e, nxl, if_neg hb, nxl, if_neg hc, nxl, if_pos hd]⟩)))
                · refine .inr (.inr (.inr (.inl ⟨a, b, c, d, t, rfl, h1, h2, by omega, by omega, by omega, by omega, by omega, by omega, ?_⟩)))
                  rw [e, nxl, if_neg hb, nxl, if_neg hc, nxl, if_neg hd, nxl]
                  refine Prod.ext ?_ rfl
                  simp only; omega

/-- What stands there is a scalar, or the sign; within bounds in every case. -/
theorem nx_scal (l : List Int) (h : l ≠ []) (hl : Bytes l) : scal (nx l).1 = true := by
  unfold scal
  rw [decide_eq_true_eq]
  rcases nx_inv l h hl with ⟨a, t, _, h0, h1, e⟩ | ⟨a, b, t, _, h1, h2, h3, h4, e⟩ | ⟨a, b, c, t, _, h1, h2, h3, h4, h5, h6, e⟩ | ⟨a, b, c, d, t, _, h1, h2, h3, h4, h5, h6, h7, h8, e⟩ | ⟨n, _, _, e⟩
  · rw [e]; simp only; omega
  · rw [e]; simp only; omega
  · rw [e]; simp only
    unfold lowOf at h3; unfold highOf at h4
    by_cases q1 : a = 224
    · subst q1; simp at h3 h4; omega
    · by_cases q2 : a = 237
      · subst q2; simp at h3 h4; omega
      · rw [if_neg q1, if_neg (by omega)] at h3; rw [if_neg q2, if_neg (by omega)] at h4; omega
  · rw [e]; simp only
    unfold lowOf at h3; unfold highOf at h4
    by_cases q1 : a = 240
    · subst q1; simp at h3 h4; omega
    · by_cases q2 : a = 244
      · subst q2; simp at h3 h4; omega
      · rw [if_neg (by omega), if_neg q1] at h3; rw [if_neg (by omega), if_neg q2] at h4; omega
  · rw [e]; simp only; omega
theorem nx_bd (l : List Int) (hl : Bytes l) : 0 ≤ (nx l).1 ∧ (nx l).1 ≤ 1114111 := by
  by_cases h : l = []
  · subst h; decide
  · have := nx_scal l h hl
    unfold scal at this
    rw [decide_eq_true_eq] at this
    omega
theorem toSc_nx (l : List Int) (hl : Bytes l) : (toSc (nx l)).1 = ((nx l).1, (nx l).2.2) := by
  unfold toSc; rw [dif_pos (nx_bd l hl)]
end Go.Proofs.YtphkdagapoonjaaGreatDoor.U
