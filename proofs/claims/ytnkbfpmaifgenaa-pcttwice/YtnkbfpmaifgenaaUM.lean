/- The plain functions of which the contracts speak: what stands at the front of bytes. -/
import Derived.WalkKit
namespace Go.Proofs.Ytnkbfpmaifgenaa.U
open Go.RowKit

def follow (c : Int) : Int := if 240 ≤ c ∧ c ≤ 244 then 3 else if 224 ≤ c ∧ c ≤ 239 then 2 else if 194 ≤ c ∧ c ≤ 223 then 1 else 0
def lowOf (c : Int) : Int := if c = 224 then 160 else if c = 240 then 144 else 128
def highOf (c : Int) : Int := if c = 237 then 159 else if c = 244 then 143 else 191
def scal (c : Int) : Bool := decide (0 ≤ c ∧ c ≤ 1114111 ∧ (c < 55296 ∨ 57343 < c))

/-- The bytes of a string, as numbers. -/
def bn (s : ByteArray) : List Int := s.data.toList.map fun c => (c.toNat : Int)

/-- The bytes behind the first, one by one: f of them are still to come, n have come, r is what they tell, lo and hi bound the next. -/
def nxl : Nat → List Int → Nat → Int → Int → Int → Int × Nat × Bool
  | 0, _, n, r, _, _ => (r, n, true)
  | _ + 1, [], n, _, _, _ => (65533, n, false)
  | f + 1, b :: t, n, r, lo, hi => if b < lo ∨ hi < b then (65533, n, false) else nxl f t (n + 1) (r * 64 + b % 64) 128 191

/-- What stands at the front. -/
def nx : List Int → Int × Nat × Bool
  | [] => (0, 0, false)
  | a :: t => if a < 128 then (a, 1, true) else if follow a = 0 then (65533, 1, false) else
      nxl (follow a).toNat t 1 (if follow a = 1 then a % 32 else if follow a = 2 then a % 16 else a % 8) (lowOf a) (highOf a)

theorem bn_length (s : ByteArray) : (bn s).length = s.size := by simp [bn]
theorem bn_drop (s : ByteArray) (k : Nat) (h : k < s.size) : (bn s).drop k = (s[k].toNat : Int) :: (bn s).drop (k + 1) := by
  have h' : k < (bn s).length := by rw [bn_length]; exact h
  rw [List.drop_eq_getElem_cons h']
  congr 1
  simp [bn]; rfl
theorem bn_drop_nil (s : ByteArray) (k : Nat) (h : s.size ≤ k) : (bn s).drop k = [] := by
  rw [List.drop_eq_nil_iff, bn_length]; exact h
theorem bn_cons (s : ByteArray) (h : 0 < s.size) : bn s = (s[0].toNat : Int) :: (bn s).drop 1 := by
  have := bn_drop s 0 h; simpa using this

theorem nxl_stop (s : ByteArray) (f k : Nat) (r lo hi : Int) (h : s.size ≤ k) : nxl (f + 1) ((bn s).drop k) k r lo hi = (65533, k, false) := by
  rw [bn_drop_nil s k h]; rfl
theorem nxl_bad (s : ByteArray) (f k : Nat) (r lo hi : Int) (h : k < s.size) (hb : (s[k].toNat : Int) < lo ∨ hi < (s[k].toNat : Int)) : nxl (f + 1) ((bn s).drop k) k r lo hi = (65533, k, false) := by
  rw [bn_drop s k h, nxl, if_pos hb]
theorem nxl_good (s : ByteArray) (f k : Nat) (r lo hi : Int) (h : k < s.size) (hb : lo ≤ (s[k].toNat : Int)) (hc : (s[k].toNat : Int) ≤ hi) :
    nxl (f + 1) ((bn s).drop k) k r lo hi = nxl f ((bn s).drop (k + 1)) (k + 1) (r * 64 + (s[k].toNat : Int) % 64) 128 191 := by
  rw [bn_drop s k h, nxl, if_neg (by omega)]

theorem nx_nil (s : ByteArray) (h : s.size = 0) : nx (bn s) = (0, 0, false) := by
  have : bn s = [] := List.length_eq_zero_iff.1 (by rw [bn_length]; exact h)
  rw [this]; rfl
theorem nx_ascii (s : ByteArray) (h : 0 < s.size) (ha : (s[0].toNat : Int) < 128) : nx (bn s) = ((s[0].toNat : Int), 1, true) := by
  rw [bn_cons s h, nx, if_pos ha]
theorem nx_none (s : ByteArray) (h : 0 < s.size) (ha : 128 ≤ (s[0].toNat : Int)) (hf : follow (s[0].toNat : Int) = 0) : nx (bn s) = (65533, 1, false) := by
  rw [bn_cons s h, nx, if_neg (by omega), if_pos hf]
theorem nx_some (s : ByteArray) (h : 0 < s.size) (ha : 128 ≤ (s[0].toNat : Int)) (m : Nat) (d : Int) (hf : follow (s[0].toNat : Int) = m) (hm : m = 1 ∧ d = 32 ∨ m = 2 ∧ d = 16 ∨ m = 3 ∧ d = 8) :
    nx (bn s) = nxl m ((bn s).drop 1) 1 ((s[0].toNat : Int) % d) (lowOf (s[0].toNat : Int)) (highOf (s[0].toNat : Int)) := by
  rw [bn_cons s h, nx, if_neg (by omega), hf, if_neg (by omega)]
  rcases hm with ⟨rfl, rfl⟩ | ⟨rfl, rfl⟩ | ⟨rfl, rfl⟩ <;> rfl
theorem follow_cases (c : Int) : (follow c = 0) ∨ (follow c = 1 ∧ 194 ≤ c ∧ c ≤ 223) ∨ (follow c = 2 ∧ 224 ≤ c ∧ c ≤ 239) ∨ (follow c = 3 ∧ 240 ≤ c ∧ c ≤ 244) := by
  unfold follow
  by_cases h3 : 240 ≤ c ∧ c ≤ 244
  · rw [if_pos h3]; omega
  · rw [if_neg h3]
    by_cases h2 : 224 ≤ c ∧ c ≤ 239
    · rw [if_pos h2]; omega
    · rw [if_neg h2]
      by_cases h1 : 194 ≤ c ∧ c ≤ 223
      · rw [if_pos h1]; omega
      · rw [if_neg h1]; omega
end Go.Proofs.Ytnkbfpmaifgenaa.U
