/- Plain: numbers by ten, eight and sixteen; how they are read and written. (Stage 10.) -/
import Derived.WalkKit
namespace Go.Proofs.YtpkmpebhlolhaaaDoor.F
set_option linter.unusedVariables false

/-- What a digit tells; -1: it is none. -/
def hx (c : Int) : Int := if 48 ≤ c ∧ c ≤ 57 then c - 48 else if 97 ≤ c ∧ c ≤ 102 then c - 87 else if 65 ≤ c ∧ c ≤ 70 then c - 55 else -1
theorem hx_bd (c : Int) : -1 ≤ hx c ∧ hx c ≤ 15 := by unfold hx; (repeat' split) <;> omega
def isX (l : List Int) : Bool := decide (2 ≤ l.length ∧ l[0]?.getD 0 = 48 ∧ (l[1]?.getD 0 = 120 ∨ l[1]?.getD 0 = 88))
def isO (l : List Int) : Bool := decide (2 ≤ l.length ∧ l[0]?.getD 0 = 48)
def base (l : List Int) : Nat := if isX l = true then 16 else if isO l = true then 8 else 10
def rest (l : List Int) : List Int := if isX l = true then l.drop 2 else if isO l = true then l.drop 1 else l
def good (b : Nat) (c : Int) : Bool := decide (0 ≤ hx c ∧ hx c < b)
def ok (b : Nat) (l : List Int) : Bool := l.all (good b)
/-- What digits come to. -/
def vl (b : Nat) (l : List Int) : Nat := l.foldl (fun n c => n * b + (hx c).toNat) 0
theorem vl_nil (b : Nat) : vl b [] = 0 := rfl
theorem vl_snoc (b : Nat) (l : List Int) (c : Int) : vl b (l ++ [c]) = vl b l * b + (hx c).toNat := by unfold vl; rw [List.foldl_append]; rfl
theorem ok_snoc (b : Nat) (l : List Int) (c : Int) : ok b (l ++ [c]) = (ok b l && good b c) := by unfold ok; rw [List.all_append]; simp
/-- The same, but never above 2^32. -/
def cap (b : Nat) (l : List Int) : Nat := min (vl b l) 4294967296
theorem cap_nil (b : Nat) : cap b [] = 0 := rfl
theorem cap_snoc {b : Nat} (hb : 1 ≤ b) (l : List Int) (c : Int) : cap b (l ++ [c]) = min (cap b l * b + (hx c).toNat) 4294967296 := by
  unfold cap
  rw [vl_snoc]
  by_cases h : vl b l ≤ 4294967296
  · rw [Nat.min_eq_left h]
  · have h1 : 4294967296 ≤ 4294967296 * b := Nat.le_mul_of_pos_right _ hb
    have h2 : 4294967296 * b ≤ vl b l * b := Nat.mul_le_mul_right _ (by omega)
    rw [Nat.min_eq_right (by omega : 4294967296 ≤ vl b l)]
    omega
/-- What Number answers: the number, and an error (0: none, 8: ErrForm, 4: ErrLong, as package api numbers them). -/
def num (l : List Int) : Nat × Int :=
  if l = [] then (0, 8) else if ok (base l) (rest l) = false then (0, 8) else if 4294967296 ≤ vl (base l) (rest l) then (0, 4) else (vl (base l) (rest l), 0)
theorem base_pos (l : List Int) : 1 ≤ base l := by unfold base; (repeat' split) <;> omega
theorem cap_long (b : Nat) (l : List Int) : 4294967296 ≤ cap b l ↔ 4294967296 ≤ vl b l := by unfold cap; omega
theorem cap_vl {b : Nat} {l : List Int} (h : ¬ 4294967296 ≤ vl b l) : cap b l = vl b l := by unfold cap; omega

/-! ### Written -/
def dg (n : Nat) : Int := if n < 10 then 48 + n else 87 + n
theorem hx_dg {n : Nat} (h : n < 16) : hx (dg n) = n := by unfold hx dg; (repeat' split) <;> omega
/-- The digits of a number, with so much fuel. -/
def wrF (b : Nat) : Nat → Nat → List Int
  | 0, n => [dg (n % b)]
  | f + 1, n => if n < b then [dg n] else wrF b f (n / b) ++ [dg (n % b)]
def wr (b n : Nat) : List Int := wrF b 64 n
theorem wrF_ok {b : Nat} (h2 : 2 ≤ b) (h16 : b ≤ 16) : ∀ (f n : Nat), n < b ^ (f + 1) → ok b (wrF b f n) = true ∧ vl b (wrF b f n) = n
  | 0, n, h => by
    have hn : n < b := by simpa using h
    have hm : n % b = n := Nat.mod_eq_of_lt hn
    have hd := hx_dg (n := n) (by omega)
    rw [wrF, hm]
    refine ⟨?_, ?_⟩
    · unfold ok good; simp [hd]; omega
    · unfold vl; simp [hd]
  | f + 1, n, h => by
    rw [wrF]
    split
    · rename_i hn
      have hd := hx_dg (n := n) (by omega)
      refine ⟨?_, ?_⟩
      · unfold ok good; simp [hd]; omega
      · unfold vl; simp [hd]
    · rename_i hn
      have hq : n / b < b ^ (f + 1) := by
        rw [Nat.div_lt_iff_lt_mul (by omega)]
        rwa [Nat.pow_succ] at h
      obtain ⟨i1, i2⟩ := wrF_ok h2 h16 f (n / b) hq
      have hm : n % b < b := Nat.mod_lt _ (by omega)
      have hd := hx_dg (n := n % b) (by omega)
      refine ⟨?_, ?_⟩
      · rw [ok_snoc, i1]; unfold good; simp [hd]; omega
      · rw [vl_snoc, i2, hd]
        have := Nat.div_add_mod n b
        simp only [Int.toNat_natCast]
        rw [Nat.mul_comm]; exact this
theorem pow_big {b : Nat} (h2 : 2 ≤ b) : 2 ^ 64 ≤ b ^ 65 := Nat.le_trans (Nat.pow_le_pow_right (by decide) (by decide : 64 ≤ 65)) (Nat.pow_le_pow_left h2 65)
theorem wr_ok {b n : Nat} (h2 : 2 ≤ b) (h16 : b ≤ 16) (hn : n < 2 ^ 64) : ok b (wr b n) = true ∧ vl b (wr b n) = n := wrF_ok h2 h16 64 n (Nat.lt_of_lt_of_le hn (pow_big h2))
theorem wrF_ne (b f n : Nat) : wrF b f n ≠ [] := by
  cases f with
  | zero => simp [wrF]
  | succ f => rw [wrF]; split <;> simp
theorem wr_ne (b n : Nat) : wr b n ≠ [] := wrF_ne b 64 n
/-- By ten no nought stands first, but for nought itself. -/
theorem wrF_first {b : Nat} (h2 : 2 ≤ b) (h16 : b ≤ 16) : ∀ (f n : Nat), n < b ^ (f + 1) → 0 < n → (wrF b f n)[0]?.getD 0 ≠ 48
  | 0, n, h, h0 => by
    have hn : n < b := by simpa using h
    rw [wrF, Nat.mod_eq_of_lt hn]
    simp
    unfold dg; split <;> omega
  | f + 1, n, h, h0 => by
    rw [wrF]
    split
    · simp
      unfold dg; split <;> omega
    · rename_i hn
      have hq : n / b < b ^ (f + 1) := by
        rw [Nat.div_lt_iff_lt_mul (by omega)]
        rwa [Nat.pow_succ] at h
      have hp : 0 < n / b := Nat.div_pos (by omega) (by omega)
      have ih := wrF_first h2 h16 f (n / b) hq hp
      have hl : 0 < (wrF b f (n / b)).length := List.length_pos_iff.2 (wrF_ne b f _)
      rwa [List.getElem?_append_left hl]
theorem wr_zero {b : Nat} (h : 0 < b) : wr b 0 = [48] := by
  unfold wr
  rw [wrF, if_pos h]; rfl
/-- A number as it is written: by sixteen, eight or ten. -/
def wrt (k n : Nat) : List Int := if k = 0 then 48 :: 120 :: wr 16 n else if k = 1 then 48 :: wr 8 n else wr 10 n
theorem vl_noughts (b : Nat) : ∀ (z : Nat) (l : List Int), vl b (List.replicate z 48 ++ l) = vl b l
  | 0, l => rfl
  | z + 1, l => by
    have ih := vl_noughts b z l
    have : vl b (List.replicate (z + 1) 48 ++ l) = vl b (List.replicate z 48 ++ l) := by
      show (List.foldl (fun n c => n * b + (hx c).toNat) 0 (48 :: (List.replicate z 48 ++ l))) = _
      rw [List.foldl_cons]
      show List.foldl _ (0 * b + (hx 48).toNat) _ = _
      rw [Nat.zero_mul, Nat.zero_add, show (hx 48).toNat = 0 by decide]; rfl
    rw [this, ih]
theorem ok_noughts {b : Nat} (hb : 1 ≤ b) (z : Nat) (l : List Int) : ok b (List.replicate z 48 ++ l) = ok b l := by
  unfold ok
  rw [List.all_append]
  have : (List.replicate z (48 : Int)).all (good b) = true := by
    rw [List.all_eq_true]
    intro c hc
    rw [List.eq_of_mem_replicate hc]
    unfold good
    exact decide_eq_true ⟨by decide, by show (0 : Int) < b; omega⟩
  rw [this, Bool.true_and]
theorem num_of {l : List Int} {b : Nat} {r : List Int} {n : Nat} (hl : l ≠ []) (hb : base l = b) (hr : rest l = r) (hok : ok b r = true) (hv : vl b r = n) : num l = if 4294967296 ≤ n then (0, 4) else (n, 0) := by
  unfold num
  rw [if_neg hl, hb, hr, hok, if_neg (by simp), hv]
theorem num_x {r : List Int} {n : Nat} (hok : ok 16 r = true) (hv : vl 16 r = n) : num (48 :: 120 :: r) = if 4294967296 ≤ n then (0, 4) else (n, 0) := by
  have hx : isX (48 :: 120 :: r) = true := by unfold isX; simp
  exact num_of (by simp) (by unfold base; rw [if_pos hx]) (by unfold rest; rw [if_pos hx]; rfl) hok hv
theorem good_x {b : Nat} {r : List Int} (hr : r ≠ []) (hok : ok b r = true) : ¬ (r[0]?.getD 0 = 120 ∨ r[0]?.getD 0 = 88) := by
  cases r with
  | nil => exact absurd rfl hr
  | cons c r =>
    unfold ok at hok
    rw [List.all_cons, Bool.and_eq_true] at hok
    have := of_decide_eq_true hok.1
    intro h
    simp at h
    rcases h with rfl | rfl
    · exact absurd this.1 (by decide)
    · exact absurd this.1 (by decide)
theorem num_o {r : List Int} {n : Nat} (hr : r ≠ []) (hok : ok 8 r = true) (hv : vl 8 r = n) : num (48 :: r) = if 4294967296 ≤ n then (0, 4) else (n, 0) := by
  have hg := good_x hr hok
  have hl : 0 < r.length := List.length_pos_iff.2 hr
  have hx : isX (48 :: r) = false := by
    unfold isX
    refine decide_eq_false (fun h => hg ?_)
    have := h.2.2
    simpa using this
  have ho : isO (48 :: r) = true := by unfold isO; simp; omega
  exact num_of (by simp) (by unfold base; rw [hx, if_neg (by simp), if_pos ho]) (by unfold rest; rw [hx, if_neg (by simp), if_pos ho]; rfl) hok hv
theorem num_t {r : List Int} {n : Nat} (hr : r ≠ []) (h0 : r.length = 1 ∨ r[0]?.getD 0 ≠ 48) (hok : ok 10 r = true) (hv : vl 10 r = n) : num r = if 4294967296 ≤ n then (0, 4) else (n, 0) := by
  have ho : isO r = false := by
    unfold isO
    refine decide_eq_false (fun h => ?_)
    rcases h0 with h1 | h1
    · omega
    · exact h1 h.2
  have hx : isX r = false := by
    unfold isX
    unfold isO at ho
    have := of_decide_eq_false ho
    exact decide_eq_false (fun h => this ⟨h.1, h.2.1⟩)
  exact num_of hr (by unfold base; rw [hx, ho]; rfl) (by unfold rest; rw [hx, ho]; rfl) hok hv
/-- A number that was written is read as itself. -/
theorem num_wrt {k n : Nat} (hn : n < 2 ^ 64) : num (wrt k n) = if 4294967296 ≤ n then (0, 4) else (n, 0) := by
  unfold wrt
  split
  · obtain ⟨h1, h2⟩ := wr_ok (b := 16) (by decide) (by decide) hn
    exact num_x h1 h2
  · split
    · obtain ⟨h1, h2⟩ := wr_ok (b := 8) (by decide) (by decide) hn
      exact num_o (wr_ne 8 n) h1 h2
    · obtain ⟨h1, h2⟩ := wr_ok (b := 10) (by decide) (by decide) hn
      refine num_t (wr_ne 10 n) ?_ h1 h2
      by_cases h0 : n = 0
      · left; rw [h0, wr_zero (by decide)]; rfl
      · right; exact wrF_first (by decide) (by decide) 64 n (Nat.lt_of_lt_of_le hn (pow_big (by decide))) (by omega)
/-- Noughts ahead change nothing, by sixteen and by eight. -/
theorem num_noughts_x {n : Nat} (z : Nat) (hn : n < 2 ^ 64) : num (48 :: 120 :: (List.replicate z 48 ++ wr 16 n)) = if 4294967296 ≤ n then (0, 4) else (n, 0) := by
  obtain ⟨h1, h2⟩ := wr_ok (b := 16) (by decide) (by decide) hn
  exact num_x (by rw [ok_noughts (by decide)]; exact h1) (by rw [vl_noughts]; exact h2)
theorem num_noughts_o {n : Nat} (z : Nat) (hn : n < 2 ^ 64) : num (48 :: (List.replicate z 48 ++ wr 8 n)) = if 4294967296 ≤ n then (0, 4) else (n, 0) := by
  obtain ⟨h1, h2⟩ := wr_ok (b := 8) (by decide) (by decide) hn
  refine num_o ?_ (by rw [ok_noughts (by decide)]; exact h1) (by rw [vl_noughts]; exact h2)
  intro h
  exact wr_ne 8 n (List.append_eq_nil_iff.1 h).2
end Go.Proofs.YtpkmpebhlolhaaaDoor.F
