/- Plain: a number's digits, written and read; a row of numbers told one behind the other; what they are read as. -/
import Derived.RowKit
namespace Go.Proofs.Ytpjbiapgkbooaaa
set_option linter.unusedVariables false

/-! ### One number -/
def thr (k b : Nat) : Nat := if k ≤ b then 1 else if b + 26 ≤ k then 26 else k - b
theorem thr_lo (k b : Nat) : 1 ≤ thr k b := by unfold thr; split; omega; split <;> omega
theorem thr_hi (k b : Nat) : thr k b ≤ 26 := by unfold thr; split; omega; split <;> omega
/-- So many rounds at the most, one more than the number itself is more than enough. -/
def loopF : Nat → Nat → Nat → Nat
  | 0, d, k => k + 36 * d / (d + 38)
  | f + 1, d, k => if d > 455 then loopF f (d / 35) (k + 36) else k + 36 * d / (d + 38)
def loopA (d k : Nat) : Nat := loopF (d + 1) d k
theorem loopF_any : ∀ (f g d k : Nat), d < f → d < g → loopF f d k = loopF g d k
  | 0, _, _, _, h, _ => absurd h (Nat.not_lt_zero _)
  | _ + 1, 0, _, _, _, h => absurd h (Nat.not_lt_zero _)
  | f + 1, g + 1, d, k, h1, h2 => by
    rw [loopF, loopF]
    split
    · exact loopF_any f g _ _ (by omega) (by omega)
    · rfl
theorem loopA_at (d k : Nat) : loopA d k = if d > 455 then loopA (d / 35) (k + 36) else k + 36 * d / (d + 38) := by
  show loopF (d + 1) d k = _
  rw [loopF]
  split
  · exact loopF_any _ _ _ _ (by omega) (by omega)
  · rfl
def adapt (d p : Nat) (first : Bool) : Nat := loopA ((if first then d / 700 else d / 2) + (if first then d / 700 else d / 2) / p) 0
def sgn (d : Nat) : Int := if d < 26 then 97 + d else 22 + d
def wnF (b : Nat) : Nat → Nat → Nat → List Int
  | 0, _, q => [sgn q]
  | f + 1, k, q => if q < thr k b then [sgn q] else sgn (thr k b + (q - thr k b) % (36 - thr k b)) :: wnF b f (k + 36) ((q - thr k b) / (36 - thr k b))
def wn (b k q : Nat) : List Int := wnF b (q + 1) k q
theorem wnF_any (b : Nat) : ∀ (f g k q : Nat), q < f → q < g → wnF b f k q = wnF b g k q
  | 0, _, _, _, h, _ => absurd h (Nat.not_lt_zero _)
  | _ + 1, 0, _, _, _, h => absurd h (Nat.not_lt_zero _)
  | f + 1, g + 1, k, q, h1, h2 => by
    have h3 := thr_lo k b
    have h4 := Nat.div_le_self (q - thr k b) (36 - thr k b)
    rw [wnF, wnF]
    split
    · rfl
    · rw [wnF_any b f g _ _ (by omega) (by omega)]
theorem wn_at (b k q : Nat) : wn b k q = if q < thr k b then [sgn q] else sgn (thr k b + (q - thr k b) % (36 - thr k b)) :: wn b (k + 36) ((q - thr k b) / (36 - thr k b)) := by
  have h3 := thr_lo k b
  have h4 := Nat.div_le_self (q - thr k b) (36 - thr k b)
  show wnF b (q + 1) k q = _
  rw [wnF]
  split
  · rfl
  · rw [wnF_any b q ((q - thr k b) / (36 - thr k b) + 1) _ _ (by omega) (Nat.lt_succ_self _)]
    rfl
def dg (c : Int) : Option Nat :=
  if 97 ≤ c ∧ c ≤ 122 then some (c - 97).toNat else if 65 ≤ c ∧ c ≤ 90 then some (c - 65).toNat else if 48 ≤ c ∧ c ≤ 57 then some (c - 22).toNat else none
def low (c : Int) : Int := if 65 ≤ c ∧ c ≤ 90 then c + 32 else c
def rn (b k i w : Nat) : List Int → Option (Nat × List Int)
  | [] => none
  | c :: cs => match dg c with
    | none => none
    | some d => if 2147483647 < i + d * w then none else if d < thr k b then some (i + d * w, cs)
      else if 2147483647 < w * (36 - thr k b) then none else rn b (k + 36) (i + d * w) (w * (36 - thr k b)) cs

theorem dg_sgn (d : Nat) (h : d < 36) : dg (sgn d) = some d := by
  unfold dg sgn
  by_cases h1 : d < 26
  · rw [if_pos h1, if_pos (by omega)]; congr 1; omega
  · rw [if_neg h1, if_neg (by omega), if_neg (by omega), if_pos (by omega)]; congr 1; omega
theorem sgn_of (c : Int) (d : Nat) (h : dg c = some d) : low c = sgn d ∧ d < 36 := by
  unfold dg at h
  unfold low sgn
  split at h
  · obtain rfl := Option.some.inj h
    rw [if_neg (by omega), if_pos (by omega)]; omega
  · split at h
    · obtain rfl := Option.some.inj h
      rw [if_pos (by omega), if_pos (by omega)]; omega
    · split at h
      · obtain rfl := Option.some.inj h
        rw [if_neg (by omega), if_neg (by omega)]; omega
      · cases h
theorem sgn_lt (d : Nat) (h : d < 36) : 45 < sgn d ∧ sgn d < 128 := by
  unfold sgn; split <;> omega
theorem wn_digit (b k q : Nat) (h : ¬ q < thr k b) : thr k b + (q - thr k b) % (36 - thr k b) < 36 := by
  have h1 := thr_lo k b; have h2 := thr_hi k b
  have := Nat.mod_lt (q - thr k b) (show 0 < 36 - thr k b by omega)
  omega
theorem wn_signs (b k q : Nat) : ∀ c ∈ wn b k q, 45 < c ∧ c < 128 := by
  induction q using Nat.strongRecOn generalizing k with
  | ind q ih =>
    intro c hc
    have h1 := thr_lo k b; have h2 := thr_hi k b
    rw [wn_at] at hc
    split at hc
    · simp at hc; subst hc; exact sgn_lt _ (by omega)
    · rename_i hq
      rcases List.mem_cons.mp hc with rfl | hc
      · exact sgn_lt _ (wn_digit b k q hq)
      · have := Nat.div_le_self (q - thr k b) (36 - thr k b)
        exact ih _ (by omega) _ c hc
theorem wn_len (b k q : Nat) : 1 ≤ (wn b k q).length := by
  rw [wn_at]; split <;> simp
/-- Written, it is read. -/
theorem rn_wn (b : Nat) (rest : List Int) : ∀ (q k i w : Nat), 1 ≤ w → i + q * w ≤ 2147483647 → q * w ≤ 71303168 → (k ≤ b + 36 → ∃ j, k = 36 * (j + 1) ∧ w = 35 ^ j) →
    rn b k i w (wn b k q ++ rest) = some (i + q * w, rest) := by
  intro q
  induction q using Nat.strongRecOn with
  | ind q ih =>
    intro k i w hw hs hb hinv
    have h1 := thr_lo k b; have h2 := thr_hi k b
    rw [wn_at]
    by_cases hq : q < thr k b
    · rw [if_pos hq]
      simp only [List.cons_append, List.nil_append, rn, dg_sgn q (by omega)]
      rw [if_neg (by omega), if_pos hq]
    · rw [if_neg hq]
      have hd := wn_digit b k q hq
      generalize ht : thr k b = t at *
      have hmod := Nat.mod_add_div (q - t) (36 - t)
      have hlt := Nat.mod_lt (q - t) (show 0 < 36 - t by omega)
      generalize hr : (q - t) % (36 - t) = r at *
      generalize hQ : (q - t) / (36 - t) = Q at *
      have hQq : Q < q := by have := Nat.div_le_self (q - t) (36 - t); omega
      have e : q = t + r + (36 - t) * Q := by omega
      have eqw : q * w = (t + r) * w + Q * (w * (36 - t)) := by
        rw [e, Nat.add_mul]; congr 1; rw [Nat.mul_comm (36 - t) Q, Nat.mul_assoc, Nat.mul_comm w]
      simp only [List.cons_append, rn, dg_sgn _ hd]
      have hw' : w * (36 - t) ≤ 2147483647 := by
        have hwq : w ≤ q * w := by
          have : 1 * w ≤ q * w := Nat.mul_le_mul_right w (by omega)
          omega
        by_cases h6 : t < 6
        · have hk : k < b + 6 := by
            unfold thr at ht
            split at ht
            · omega
            · split at ht <;> omega
          obtain ⟨j, hkj, hwj⟩ := hinv (by omega)
          have hj : j ≤ 5 := by
            apply Nat.le_of_not_lt
            intro hj
            have : 35 ^ 6 ≤ 35 ^ j := Nat.pow_le_pow_right (by omega) hj
            have e6 : (35 : Nat) ^ 6 = 1838265625 := by decide
            omega
          have h5 : 35 ^ j ≤ 35 ^ 5 := Nat.pow_le_pow_right (by omega) hj
          have e5 : (35 : Nat) ^ 5 = 52521875 := by decide
          have : w * (36 - t) ≤ 52521875 * 35 := Nat.mul_le_mul (by omega) (by omega)
          omega
        · have : w * (36 - t) ≤ 71303168 * 30 := Nat.mul_le_mul (by omega) (by omega)
          omega
      rw [ht, if_neg (by omega), if_neg (by omega), if_neg (by omega), ih Q hQq (k + 36) _ _ (Nat.mul_pos hw (by omega)) (by omega) (by omega) ?_]
      · congr 2; omega
      · intro hk
        have hkb : k ≤ b := by omega
        obtain ⟨j, hkj, hwj⟩ := hinv (by omega)
        refine ⟨j + 1, by omega, ?_⟩
        have : t = 1 := by unfold thr at ht; rw [if_pos hkb] at ht; omega
        rw [this, hwj, Nat.pow_succ]
/-- Read, it is what is written of it, but for capitals. -/
theorem rn_inv (b : Nat) : ∀ (cs : List Int) (k i w j : Nat) (rest : List Int), rn b k i w cs = some (j, rest) →
    j ≤ 2147483647 ∧ rest.length < cs.length ∧ (∃ q, j = i + q * w ∧ cs.map low = wn b k q ++ rest.map low) ∧ ∃ m, rest = cs.drop m
  | [], _, _, _, _, _, h => by simp [rn] at h
  | c :: cs, k, i, w, j, rest, h => by
    rw [rn] at h
    cases hd : dg c with
    | none => simp [hd] at h
    | some d =>
      obtain ⟨hl, hlt⟩ := sgn_of c d hd
      rw [hd] at h
      simp only at h
      split at h
      · cases h
      · split at h
        · rename_i h1 h2
          obtain ⟨rfl, rfl⟩ := Prod.mk.inj (Option.some.inj h)
          refine ⟨by omega, by simp, ⟨d, rfl, ?_⟩, 1, rfl⟩
          rw [wn_at, if_pos h2, List.map_cons, hl]; rfl
        · split at h
          · cases h
          · rename_i h1 h2 h3
            obtain ⟨a1, a2, ⟨q, rfl, a4⟩, m, a5⟩ := rn_inv b cs _ _ _ _ _ h
            refine ⟨a1, by simp; omega, ⟨d + (36 - thr k b) * q, ?_, ?_⟩, m + 1, by simpa using a5⟩
            · rw [Nat.add_mul, Nat.mul_comm (36 - thr k b) q, Nat.mul_assoc, Nat.mul_comm (36 - thr k b) w, Nat.add_assoc]
            · have t1 := thr_lo k b; have t2 := thr_hi k b
              have hn : ¬ d + (36 - thr k b) * q < thr k b := by omega
              rw [wn_at, if_neg hn, List.map_cons, hl]
              generalize thr k b = t at *
              have e : d + (36 - t) * q - t = (d - t) + (36 - t) * q := by omega
              have e1 : (d + (36 - t) * q - t) % (36 - t) = d - t := by
                rw [e, Nat.add_mul_mod_self_left, Nat.mod_eq_of_lt (by omega)]
              have e2 : (d + (36 - t) * q - t) / (36 - t) = q := by
                rw [e, Nat.add_mul_div_left _ _ (by omega), Nat.div_eq_of_lt (by omega), Nat.zero_add]
              rw [e1, e2, show t + (d - t) = d by omega, a4]; rfl

/-! ### Numbers one behind the other -/
structure St where
  n : Int
  i : Nat
  pts : List Int
def St.step (s : St) (d : Nat) : St :=
  ⟨s.n + ((s.i + d) / (s.pts.length + 1) : Nat), (s.i + d) % (s.pts.length + 1) + 1,
    s.pts.take ((s.i + d) % (s.pts.length + 1)) ++ (s.n + ((s.i + d) / (s.pts.length + 1) : Nat)) :: s.pts.drop ((s.i + d) % (s.pts.length + 1))⟩
def run (pl : List Int) : List Nat → St
  | [] => ⟨128, 0, pl⟩
  | d :: ds => (run pl ds).step d
def bia (p : Nat) : List Nat → Nat
  | [] => 72
  | d :: ds => adapt d (p + ds.length + 1) ds.isEmpty
def tx (p : Nat) : List Nat → List Int
  | [] => []
  | d :: ds => tx p ds ++ wn (bia p ds) 36 d
theorem tx_signs (p : Nat) : ∀ ds, ∀ c ∈ tx p ds, 45 < c ∧ c < 128
  | [], c, h => by simp [tx] at h
  | d :: ds, c, h => by
    rcases List.mem_append.mp h with h | h
    · exact tx_signs p ds c h
    · exact wn_signs _ _ _ c h
theorem tx_len (p : Nat) : ∀ ds, ds.length ≤ (tx p ds).length
  | [] => by simp
  | d :: ds => by
    have := tx_len p ds; have := wn_len (bia p ds) 36 d
    simp [tx]; omega
theorem step_len (s : St) (d : Nat) : (s.step d).pts.length = s.pts.length + 1 := by
  have := Nat.mod_lt (s.i + d) (show 0 < s.pts.length + 1 by omega)
  simp [St.step]; omega
theorem run_len (pl : List Int) : ∀ ds, (run pl ds).pts.length = pl.length + ds.length
  | [] => rfl
  | d :: ds => by rw [run, step_len, run_len pl ds]; simp; omega
theorem run_i (pl : List Int) (ds : List Nat) : ((run pl ds).i == 0) = ds.isEmpty := by
  cases ds with
  | nil => rfl
  | cons d ds => simp [run, St.step]
theorem step_mem (s : St) (d : Nat) : ∀ x, x ∈ (s.step d).pts ↔ x = (s.step d).n ∨ x ∈ s.pts := by
  intro x
  simp only [St.step, List.mem_append, List.mem_cons]
  have e := List.take_append_drop ((s.i + d) % (s.pts.length + 1)) s.pts
  have : x ∈ s.pts ↔ x ∈ s.pts.take ((s.i + d) % (s.pts.length + 1)) ∨ x ∈ s.pts.drop ((s.i + d) % (s.pts.length + 1)) := by
    conv => lhs; rw [← e]
    exact List.mem_append
  rw [this]
  constructor
  · rintro (h | h | h) <;> simp [h]
  · rintro (h | h | h) <;> simp [h]
/-- What stands ahead of the place is at most n, what stands from it on is less. -/
structure Fits (s : St) : Prop where
  le : s.i ≤ s.pts.length
  lo : ∀ x ∈ s.pts.take s.i, x ≤ s.n
  hi : ∀ x ∈ s.pts.drop s.i, x < s.n
theorem Fits.all {s : St} (h : Fits s) : ∀ x ∈ s.pts, x ≤ s.n := by
  intro x hx
  rw [← List.take_append_drop s.i s.pts] at hx
  rcases List.mem_append.mp hx with hx | hx
  · exact h.lo x hx
  · exact Int.le_of_lt (h.hi x hx)
theorem Fits.step {s : St} (h : Fits s) (d : Nat) : Fits (s.step d) := by
  have hlt := Nat.mod_lt (s.i + d) (show 0 < s.pts.length + 1 by omega)
  have hdm := Nat.div_add_mod (s.i + d) (s.pts.length + 1)
  unfold St.step
  generalize (s.i + d) % (s.pts.length + 1) = r at *
  generalize (s.i + d) / (s.pts.length + 1) = q at *
  have hl : (s.pts.take r).length = r := by rw [List.length_take]; omega
  refine ⟨by simp; omega, ?_, ?_⟩
  · intro x hx
    have hx : x ∈ (s.pts.take r ++ (s.n + (q : Int)) :: s.pts.drop r).take (r + 1) := hx
    have e : (s.pts.take r ++ (s.n + (q : Int)) :: s.pts.drop r).take (r + 1) = s.pts.take r ++ [s.n + (q : Int)] := by
      rw [List.take_append, hl, List.take_of_length_le (by omega)]; simp
    rw [e] at hx
    show x ≤ s.n + (q : Int)
    rcases List.mem_append.mp hx with hx | hx
    · have := h.all x (List.mem_of_mem_take hx); omega
    · simp at hx; omega
  · intro x hx0
    have hx : x ∈ (s.pts.take r ++ (s.n + (q : Int)) :: s.pts.drop r).drop (r + 1) := hx0
    have e : (s.pts.take r ++ (s.n + (q : Int)) :: s.pts.drop r).drop (r + 1) = s.pts.drop r := by
      rw [List.drop_append, hl, List.drop_of_length_le (by omega)]; simp
    rw [e] at hx
    clear hx0 e
    show x < s.n + (q : Int)
    by_cases hq : q = 0
    · rw [hq] at hdm
      have : s.i ≤ r := by simp at hdm; omega
      have hy : x ∈ s.pts.drop s.i := by
        obtain ⟨u, rfl⟩ : ∃ u, r = s.i + u := ⟨r - s.i, by omega⟩
        rw [← List.drop_drop] at hx
        exact List.mem_of_mem_drop hx
      have := h.hi x hy; omega
    · have := h.all x (List.mem_of_mem_drop hx); omega
theorem fits_run (pl : List Int) (h : ∀ x ∈ pl, x < 128) : ∀ ds, Fits (run pl ds)
  | [] => ⟨Nat.zero_le _, by simp [run], by simpa [run] using h⟩
  | d :: ds => (fits_run pl h ds).step d
theorem run_n (pl : List Int) : ∀ ds, 128 ≤ (run pl ds).n
  | [] => by simp [run]
  | d :: ds => by
    have := run_n pl ds
    show 128 ≤ (run pl ds).n + ((((run pl ds).i + d) / ((run pl ds).pts.length + 1) : Nat) : Int)
    have := Int.natCast_nonneg (((run pl ds).i + d) / ((run pl ds).pts.length + 1))
    generalize ((((run pl ds).i + d) / ((run pl ds).pts.length + 1) : Nat) : Int) = z at *
    omega
theorem run_low (pl : List Int) (h : ∀ x ∈ pl, x < 128) : ∀ ds, (run pl ds).pts.filter (fun x => decide (x < 128)) = pl
  | [] => by
    rw [run, List.filter_eq_self]
    intro x hx; simpa using h x hx
  | d :: ds => by
    have ih := run_low pl h ds
    have hn := run_n pl (d :: ds)
    rw [run] at hn ⊢
    simp only [St.step] at hn ⊢
    generalize (run pl ds).n + (((run pl ds).i + d) / ((run pl ds).pts.length + 1) : Nat) = n at *
    rw [List.filter_append, List.filter_cons, if_neg (by simp; omega), ← List.filter_append, List.take_append_drop, ih]
/-- What is told has one way to be told. -/
theorem run_inj (pl : List Int) (h : ∀ x ∈ pl, x < 128) : ∀ ds es : List Nat, (run pl ds).pts = (run pl es).pts → ds = es
  | [], es, e => by
    have := congrArg List.length e
    rw [run_len, run_len] at this
    have : es.length = 0 := by rw [List.length_nil] at this; omega
    exact (List.eq_nil_of_length_eq_zero this).symm
  | d :: ds, [], e => by
    have := congrArg List.length e
    rw [run_len, run_len] at this
    simp at this
  | d :: ds, f :: es, e => by
    have A := fits_run pl h (d :: ds); have B := fits_run pl h (f :: es)
    have am : (run pl (d :: ds)).n ∈ (run pl (d :: ds)).pts := (step_mem _ _ _).mpr (.inl rfl)
    have bm : (run pl (f :: es)).n ∈ (run pl (f :: es)).pts := (step_mem _ _ _).mpr (.inl rfl)
    have en : (run pl (d :: ds)).n = (run pl (f :: es)).n := by
      have := A.all _ (e ▸ bm); have := B.all _ (e ▸ am); omega
    have place : ∀ (s : St) (d : Nat), ∃ k, (s.step d).i = k + 1 ∧ k < (s.step d).pts.length ∧ (s.step d).pts[k]? = some (s.step d).n ∧ k ≤ s.pts.length ∧ s.pts = (s.step d).pts.take k ++ (s.step d).pts.drop (k + 1) := by
      intro s d
      have hlt := Nat.mod_lt (s.i + d) (show 0 < s.pts.length + 1 by omega)
      refine ⟨(s.i + d) % (s.pts.length + 1), rfl, by rw [step_len]; omega, ?_, by omega, ?_⟩
      · simp only [St.step]
        rw [List.getElem?_append_right (by rw [List.length_take]; omega), List.length_take, show (s.i + d) % (s.pts.length + 1) - min ((s.i + d) % (s.pts.length + 1)) s.pts.length = 0 by omega]
        rfl
      · simp only [St.step]
        generalize (s.i + d) % (s.pts.length + 1) = r at *
        have hl : (s.pts.take r).length = r := by rw [List.length_take]; omega
        have e1 : (s.pts.take r ++ (s.n + ((s.i + d) / (s.pts.length + 1) : Nat)) :: s.pts.drop r).drop (r + 1) = s.pts.drop r := by
          rw [List.drop_append, hl, List.drop_of_length_le (by omega)]; simp
        have e2 : (s.pts.take r ++ (s.n + ((s.i + d) / (s.pts.length + 1) : Nat)) :: s.pts.drop r).take r = s.pts.take r := by
          rw [List.take_append, hl, List.take_of_length_le (by omega)]; simp
        rw [e1, e2, List.take_append_drop]
    obtain ⟨k, hk, hkl, hkn, hk2, hkp⟩ := place (run pl ds) d
    obtain ⟨m, hm, hml, hmn, hm2, hmp⟩ := place (run pl es) f
    have hA := A.hi; have hB := B.hi
    simp only [run] at e en hA hB
    rw [hk] at hA
    rw [hm] at hB
    have ekm : k = m := by
      rcases Nat.lt_trichotomy k m with hlt | heq | hlt
      · exfalso
        have : ((run pl es).step f).n < ((run pl ds).step d).n := hA _ (by
          rw [List.mem_iff_getElem?]
          refine ⟨m - (k + 1), ?_⟩
          rw [List.getElem?_drop, e, show k + 1 + (m - (k + 1)) = m by omega]; exact hmn)
        omega
      · exact heq
      · exfalso
        have : ((run pl ds).step d).n < ((run pl es).step f).n := hB _ (by
          rw [List.mem_iff_getElem?]
          refine ⟨k - (m + 1), ?_⟩
          rw [List.getElem?_drop, ← e, show m + 1 + (k - (m + 1)) = k by omega]; exact hkn)
        omega
    subst ekm
    have ep : (run pl ds).pts = (run pl es).pts := by rw [hkp, hmp, e]
    obtain rfl := run_inj pl h ds es ep
    have e1 := en; simp only [St.step] at e1
    have e2 : ((run pl ds).i + d) % ((run pl ds).pts.length + 1) = ((run pl ds).i + f) % ((run pl ds).pts.length + 1) := by
      have := hk.trans hm.symm
      simp only [St.step] at this; omega
    have e3 : ((run pl ds).i + d) / ((run pl ds).pts.length + 1) = ((run pl ds).i + f) / ((run pl ds).pts.length + 1) := by omega
    have a1 := Nat.div_add_mod ((run pl ds).i + d) ((run pl ds).pts.length + 1)
    have a2 := Nat.div_add_mod ((run pl ds).i + f) ((run pl ds).pts.length + 1)
    rw [e2, e3] at a1
    have : d = f := by omega
    rw [this]
end Go.Proofs.Ytpjbiapgkbooaaa
