/- Texts of one layer, one behind the other: PPA PPB. -/
import Derived.Test.YtdncaehajhmcoaaGreatZU1
import Derived.RowKit
/- Plain: a number's digits, written and read; a row of numbers told one behind the other; what they are read as. -/
namespace Go.Proofs.YtdncaehajhmcoaaGreat.P
set_option linter.unusedVariables false

/-! ### One number -/
def thr (k b : Nat) : Nat := if k ≤ b then 1 else if b + 26 ≤ k then 26 else k - b
theorem thr_lo (k b : Nat) : 1 ≤ thr k b := by unfold thr; split; omega; split <;> omega
theorem thr_hi (k b : Nat) : thr k b ≤ 26 := by unfold thr; split; omega; split <;> omega
/-- So many rounds at the most, one more than the number itself is more than enough. -/
def loopF : Nat → Nat → Nat → Nat
  | 0, d, k => k + 36 * d / (d + 38)
  | f + 1, d, k => if d > 455 then loopF f (d / 35) (k + 36) else k + 36 * d / (d + 38)
def loopA (d k : Nat) : Nat := loopF (d + 1) d k
theorem loopF_any : ∀ (f g d k : Nat), d < f → d < g → loopF f d k = loopF g d k
  | 0, _, _, _, h, _ => absurd h (Nat.not_lt_zero _)
  | _ + 1, 0, _, _, _, h => absurd h (Nat.not_lt_zero _)
  | f + 1, g + 1, d, k, h1, h2 => by
    rw [loopF, loopF]
    split
    · exact loopF_any f g _ _ (by omega) (by omega)
    · rfl
theorem loopA_at (d k : Nat) : loopA d k = if d > 455 then loopA (d / 35) (k + 36) else k + 36 * d / (d + 38) := by
  show loopF (d + 1) d k = _
  rw [loopF]
  split
  · exact loopF_any _ _ _ _ (by omega) (by omega)
  · rfl
def adapt (d p : Nat) (first : Bool) : Nat := loopA ((if first then d / 700 else d / 2) + (if first then d / 700 else d / 2) / p) 0
def sgn (d : Nat) : Int := if d < 26 then 97 + d else 22 + d
def wnF (b : Nat) : Nat → Nat → Nat → List Int
  | 0, _, q => [sgn q]
  | f + 1, k, q => if q < thr k b then [sgn q] else sgn (thr k b + (q - thr k b) % (36 - thr k b)) :: wnF b f (k + 36) ((q - thr k b) / (36 - thr k b))
def wn (b k q : Nat) : List Int := wnF b (q + 1) k q
theorem wnF_any (b : Nat) : ∀ (f g k q : Nat), q < f → q < g → wnF b f k q = wnF b g k q
  | 0, _, _, _, h, _ => absurd h (Nat.not_lt_zero _)
  | _ + 1, 0, _, _, _, h => absurd h (Nat.not_lt_zero _)
  | f + 1, g + 1, k, q, h1, h2 => by
    have h3 := thr_lo k b
    have h4 := Nat.div_le_self (q - thr k b) (36 - thr k b)
    rw [wnF, wnF]
    split
    · rfl
    · rw [wnF_any b f g _ _ (by omega) (by omega)]
theorem wn_at (b k q : Nat) : wn b k q = if q < thr k b then [sgn q] else sgn (thr k b + (q - thr k b) % (36 - thr k b)) :: wn b (k + 36) ((q - thr k b) / (36 - thr k b)) := by
  have h3 := thr_lo k b
  have h4 := Nat.div_le_self (q - thr k b) (36 - thr k b)
  show wnF b (q + 1) k q = _
  rw [wnF]
  split
  · rfl
  · rw [wnF_any b q ((q - thr k b) / (36 - thr k b) + 1) _ _ (by omega) (Nat.lt_succ_self _)]
    rfl
def dg (c : Int) : Option Nat :=
  if 97 ≤ c ∧ c ≤ 122 then some (c - 97).toNat else if 65 ≤ c ∧ c ≤ 90 then some (c - 65).toNat else if 48 ≤ c ∧ c ≤ 57 then some (c - 22).toNat else none
def low (c : Int) : Int := if 65 ≤ c ∧ c ≤ 90 then c + 32 else c
def rn (b k i w : Nat) : List Int → Option (Nat × List Int)
  | [] => none
  | c :: cs => match dg c with
    | none => none
    | some d => if 2147483647 < i + d * w then none else if d < thr k b then some (i + d * w, cs)
      else if 2147483647 < w * (36 - thr k b) then none else rn b (k + 36) (i + d * w) (w * (36 - thr k b)) cs

theorem dg_sgn (d : Nat) (h : d < 36) : dg (sgn d) = some d := by
  unfold dg sgn
  by_cases h1 : d < 26
  · rw [if_pos h1, if_pos (by omega)]; congr 1; omega
  · rw [if_neg h1, if_neg (by omega), if_neg (by omega), if_pos (by omega)]; congr 1; omega
theorem sgn_of (c : Int) (d : Nat) (h : dg c = some d) : low c = sgn d ∧ d < 36 := by
  unfold dg at h
  unfold low sgn
  split at h
  · obtain rfl := Option.some.inj h
    rw [if_neg (by omega), if_pos (by omega)]; omega
  · split at h
    · obtain rfl := Option.some.inj h
      rw [if_pos (by omega), if_pos (by omega)]; omega
    · split at h
      · obtain rfl := Option.some.inj h
        rw [if_neg (by omega), if_neg (by omega)]; omega
      · cases h
theorem sgn_lt (d : Nat) (h : d < 36) : 45 < sgn d ∧ sgn d < 128 := by
  unfold sgn; split <;> omega
theorem wn_digit (b k q : Nat) (h : ¬ q < thr k b) : thr k b + (q - thr k b) % (36 - thr k b) < 36 := by
  have h1 := thr_lo k b; have h2 := thr_hi k b
  have := Nat.mod_lt (q - thr k b) (show 0 < 36 - thr k b by omega)
  omega
theorem wn_signs (b k q : Nat) : ∀ c ∈ wn b k q, 45 < c ∧ c < 128 := by
  induction q using Nat.strongRecOn generalizing k with
  | ind q ih =>
    intro c hc
    have h1 := thr_lo k b; have h2 := thr_hi k b
    rw [wn_at] at hc
    split at hc
    · simp at hc; subst hc; exact sgn_lt _ (by omega)
    · rename_i hq
      rcases List.mem_cons.mp hc with rfl | hc
      · exact sgn_lt _ (wn_digit b k q hq)
      · have := Nat.div_le_self (q - thr k b) (36 - thr k b)
        exact ih _ (by omega) _ c hc
theorem wn_len (b k q : Nat) : 1 ≤ (wn b k q).length := by
  rw [wn_at]; split <;> simp
/-- Written, it is read. -/
theorem rn_wn (b : Nat) (rest : List Int) : ∀ (q k i w : Nat), 1 ≤ w → i + q * w ≤ 2147483647 → q * w ≤ 71303168 → (k ≤ b + 36 → ∃ j, k = 36 * (j + 1) ∧ w = 35 ^ j) →
    rn b k i w (wn b k q ++ rest) = some (i + q * w, rest) := by
  intro q
  induction q using Nat.strongRecOn with
  | ind q ih =>
    intro k i w hw hs hb hinv
    have h1 := thr_lo k b; have h2 := thr_hi k b
    rw [wn_at]
    by_cases hq : q < thr k b
    · rw [if_pos hq]
      simp only [List.cons_append, List.nil_append, rn, dg_sgn q (by omega)]
      rw [if_neg (by omega), if_pos hq]
    · rw [if_neg hq]
      have hd := wn_digit b k q hq
      generalize ht : thr k b = t at *
      have hmod := Nat.mod_add_div (q - t) (36 - t)
      have hlt := Nat.mod_lt (q - t) (show 0 < 36 - t by omega)
      generalize hr : (q - t) % (36 - t) = r at *
      generalize hQ : (q - t) / (36 - t) = Q at *
      have hQq : Q < q := by have := Nat.div_le_self (q - t) (36 - t); omega
      have e : q = t + r + (36 - t) * Q := by omega
      have eqw : q * w = (t + r) * w + Q * (w * (36 - t)) := by
        rw [e, Nat.add_mul]; congr 1; rw [Nat.mul_comm (36 - t) Q, Nat.mul_assoc, Nat.mul_comm w]
      simp only [List.cons_append, rn, dg_sgn _ hd]
      have hw' : w * (36 - t) ≤ 2147483647 := by
        have hwq : w ≤ q * w := by
          have : 1 * w ≤ q * w := Nat.mul_le_mul_right w (by omega)
          omega
        by_cases h6 : t < 6
        · have hk : k < b + 6 := by
            unfold thr at ht
            split at ht
            · omega
            · split at ht <;> omega
          obtain ⟨j, hkj, hwj⟩ := hinv (by omega)
          have hj : j ≤ 5 := by
            apply Nat.le_of_not_lt
            intro hj
            have : 35 ^ 6 ≤ 35 ^ j := Nat.pow_le_pow_right (by omega) hj
            have e6 : (35 : Nat) ^ 6 = 1838265625 := by decide
            omega
          have h5 : 35 ^ j ≤ 35 ^ 5 := Nat.pow_le_pow_right (by omega) hj
          have e5 : (35 : Nat) ^ 5 = 52521875 := by decide
          have : w * (36 - t) ≤ 52521875 * 35 := Nat.mul_le_mul (by omega) (by omega)
          omega
        · have : w * (36 - t) ≤ 71303168 * 30 := Nat.mul_le_mul (by omega) (by omega)
          omega
      rw [ht, if_neg (by omega), if_neg (by omega), if_neg (by omega), ih Q hQq (k + 36) _ _ (Nat.mul_pos hw (by omega)) (by omega) (by omega) ?_]
      · congr 2; omega
      · intro hk
        have hkb : k ≤ b := by omega
        obtain ⟨j, hkj, hwj⟩ := hinv (by omega)
        refine ⟨j + 1, by omega, ?_⟩
        have : t = 1 := by unfold thr at ht; rw [if_pos hkb] at ht; omega
        rw [this, hwj, Nat.pow_succ]
/-- Read, it is what is written of it, but for capitals. -/
theorem rn_inv (b : Nat) : ∀ (cs : List Int) (k i w j : Nat) (rest : List Int), rn b k i w cs = some (j, rest) →
    j ≤ 2147483647 ∧ rest.length < cs.length ∧ (∃ q, j = i + q * w ∧ cs.map low = wn b k q ++ rest.map low) ∧ ∃ m, rest = cs.drop m
  | [], _, _, _, _, _, h => by simp [rn] at h
  | c :: cs, k, i, w, j, rest, h => by
    rw [rn] at h
    cases hd : dg c with
    | none => simp [hd] at h
    | some d =>
      obtain ⟨hl, hlt⟩ := sgn_of c d hd
      rw [hd] at h
      simp only at h
      split at h
      · cases h
      · split at h
        · rename_i h1 h2
          obtain ⟨rfl, rfl⟩ := Prod.mk.inj (Option.some.inj h)
          refine ⟨by omega, by simp, ⟨d, rfl, ?_⟩, 1, rfl⟩
          rw [wn_at, if_pos h2, List.map_cons, hl]; rfl
        · split at h
          · cases h
          · rename_i h1 h2 h3
            obtain ⟨a1, a2, ⟨q, rfl, a4⟩, m, a5⟩ := rn_inv b cs _ _ _ _ _ h
            refine ⟨a1, by simp; omega, ⟨d + (36 - thr k b) * q, ?_, ?_⟩, m + 1, by simpa using a5⟩
            · rw [Nat.add_mul, Nat.mul_comm (36 - thr k b) q, Nat.mul_assoc, Nat.mul_comm (36 - thr k b) w, Nat.add_assoc]
            · have t1 := thr_lo k b; have t2 := thr_hi k b
              have hn : ¬ d + (36 - thr k b) * q < thr k b := by omega
              rw [wn_at, if_neg hn, List.map_cons, hl]
              generalize thr k b = t at *
              have e : d + (36 - t) * q - t = (d - t) + (36 - t) * q := by omega
              have e1 : (d + (36 - t) * q - t) % (36 - t) = d - t := by
                rw [e, Nat.add_mul_mod_self_left, Nat.mod_eq_of_lt (by omega)]
              have e2 : (d + (36 - t) * q - t) / (36 - t) = q := by
                rw [e, Nat.add_mul_div_left _ _ (by omega), Nat.div_eq_of_lt (by omega), Nat.zero_add]
              rw [e1, e2, show t + (d - t) = d by omega, a4]; rfl

/-! ### Numbers one behind the other -/
structure St where
  n : Int
  i : Nat
  pts : List Int
def St.step (s : St) (d : Nat) : St :=
  ⟨s.n + ((s.i + d) / (s.pts.length + 1) : Nat), (s.i + d) % (s.pts.length + 1) + 1,
    s.pts.take ((s.i + d) % (s.pts.length + 1)) ++ (s.n + ((s.i + d) / (s.pts.length + 1) : Nat)) :: s.pts.drop ((s.i + d) % (s.pts.length + 1))⟩
def run (pl : List Int) : List Nat → St
  | [] => ⟨128, 0, pl⟩
  | d :: ds => (run pl ds).step d
def bia (p : Nat) : List Nat → Nat
  | [] => 72
  | d :: ds => adapt d (p + ds.length + 1) ds.isEmpty
def tx (p : Nat) : List Nat → List Int
  | [] => []
  | d :: ds => tx p ds ++ wn (bia p ds) 36 d
theorem tx_signs (p : Nat) : ∀ ds, ∀ c ∈ tx p ds, 45 < c ∧ c < 128
  | [], c, h => by simp [tx] at h
  | d :: ds, c, h => by
    rcases List.mem_append.mp h with h | h
    · exact tx_signs p ds c h
    · exact wn_signs _ _ _ c h
theorem tx_len (p : Nat) : ∀ ds, ds.length ≤ (tx p ds).length
  | [] => by simp
  | d :: ds => by
    have := tx_len p ds; have := wn_len (bia p ds) 36 d
    simp [tx]; omega
theorem step_len (s : St) (d : Nat) : (s.step d).pts.length = s.pts.length + 1 := by
  have := Nat.mod_lt (s.i + d) (show 0 < s.pts.length + 1 by omega)
  simp [St.step]; omega
theorem run_len (pl : List Int) : ∀ ds, (run pl ds).pts.length = pl.length + ds.length
  | [] => rfl
  | d :: ds => by rw [run, step_len, run_len pl ds]; simp; omega
theorem run_i (pl : List Int) (ds : List Nat) : ((run pl ds).i == 0) = ds.isEmpty := by
  cases ds with
  | nil => rfl
  | cons d ds => simp [run, St.step]
theorem step_mem (s : St) (d : Nat) : ∀ x, x ∈ (s.step d).pts ↔ x = (s.step d).n ∨ x ∈ s.pts := by
  intro x
  simp only [St.step, List.mem_append, List.mem_cons]
  have e := List.take_append_drop ((s.i + d) % (s.pts.length + 1)) s.pts
  have : x ∈ s.pts ↔ x ∈ s.pts.take ((s.i + d) % (s.pts.length + 1)) ∨ x ∈ s.pts.drop ((s.i + d) % (s.pts.length + 1)) := by
    conv => lhs; rw [← e]
    exact List.mem_append
  rw [this]
  constructor
  · rintro (h | h | h) <;> simp [h]
  · rintro (h | h | h) <;> simp [h]
/-- What stands ahead of the place is at most n, what stands from it on is less. -/
structure Fits (s : St) : Prop where
  le : s.i ≤ s.pts.length
  lo : ∀ x ∈ s.pts.take s.i, x ≤ s.n
  hi : ∀ x ∈ s.pts.drop s.i, x < s.n
theorem Fits.all {s : St} (h : Fits s) : ∀ x ∈ s.pts, x ≤ s.n := by
  intro x hx
  rw [← List.take_append_drop s.i s.pts] at hx
  rcases List.mem_append.mp hx with hx | hx
  · exact h.lo x hx
  · exact Int.le_of_lt (h.hi x hx)
theorem Fits.step {s : St} (h : Fits s) (d : Nat) : Fits (s.step d) := by
  have hlt := Nat.mod_lt (s.i + d) (show 0 < s.pts.length + 1 by omega)
  have hdm := Nat.div_add_mod (s.i + d) (s.pts.length + 1)
  unfold St.step
  generalize (s.i + d) % (s.pts.length + 1) = r at *
  generalize (s.i + d) / (s.pts.length + 1) = q at *
  have hl : (s.pts.take r).length = r := by rw [List.length_take]; omega
  refine ⟨by simp; omega, ?_, ?_⟩
  · intro x hx
    have hx : x ∈ (s.pts.take r ++ (s.n + (q : Int)) :: s.pts.drop r).take (r + 1) := hx
    have e : (s.pts.take r ++ (s.n + (q : Int)) :: s.pts.drop r).take (r + 1) = s.pts.take r ++ [s.n + (q : Int)] := by
      rw [List.take_append, hl, List.take_of_length_le (by omega)]; simp
    rw [e] at hx
    show x ≤ s.n + (q : Int)
    rcases List.mem_append.mp hx with hx | hx
    · have := h.all x (List.mem_of_mem_take hx); omega
    · simp at hx; omega
  · intro x hx0
    have hx : x ∈ (s.pts.take r ++ (s.n + (q : Int)) :: s.pts.drop r).drop (r + 1) := hx0
    have e : (s.pts.take r ++ (s.n + (q : Int)) :: s.pts.drop r).drop (r + 1) = s.pts.drop r := by
      rw [List.drop_append, hl, List.drop_of_length_le (by omega)]; simp
    rw [e] at hx
    clear hx0 e
    show x < s.n + (q : Int)
    by_cases hq : q = 0
    · rw [hq] at hdm
      have : s.i ≤ r := by simp at hdm; omega
      have hy : x ∈ s.pts.drop s.i := by
        obtain ⟨u, rfl⟩ : ∃ u, r = s.i + u := ⟨r - s.i, by omega⟩
        rw [← List.drop_drop] at hx
        exact List.mem_of_mem_drop hx
      have := h.hi x hy; omega
    · have := h.all x (List.mem_of_mem_drop hx); omega
theorem fits_run (pl : List Int) (h : ∀ x ∈ pl, x < 128) : ∀ ds, Fits (run pl ds)
  | [] => ⟨Nat.zero_le _, by simp [run], by simpa [run] using h⟩
  | d :: ds => (fits_run pl h ds).step d
theorem run_n (pl : List Int) : ∀ ds, 128 ≤ (run pl ds).n
  | [] => by simp [run]
  | d :: ds => by
    have := run_n pl ds
    show 128 ≤ (run pl ds).n + ((((run pl ds).i + d) / ((run pl ds).pts.length + 1) : Nat) : Int)
    have := Int.natCast_nonneg (((run pl ds).i + d) / ((run pl ds).pts.length + 1))
    generalize ((((run pl ds).i + d) / ((run pl ds).pts.length + 1) : Nat) : Int) = z at *
    omega
theorem run_low (pl : List Int) (h : ∀ x ∈ pl, x < 128) : ∀ ds, (run pl ds).pts.filter (fun x => decide (x < 128)) = pl
  | [] => by
    rw [run, List.filter_eq_self]
    intro x hx; simpa using h x hx
  | d :: ds => by
    have ih := run_low pl h ds
    have hn := run_n pl (d :: ds)
    rw [run] at hn ⊢
    simp only [St.step] at hn ⊢
    generalize (run pl ds).n + (((run pl ds).i + d) / ((run pl ds).pts.length + 1) : Nat) = n at *
    rw [List.filter_append, List.filter_cons, if_neg (by simp; omega), ← List.filter_append, List.take_append_drop, ih]
/-- What is told has one way to be told. -/
theorem run_inj (pl : List Int) (h : ∀ x ∈ pl, x < 128) : ∀ ds es : List Nat, (run pl ds).pts = (run pl es).pts → ds = es
  | [], es, e => by
    have := congrArg List.length e
    rw [run_len, run_len] at this
    have : es.length = 0 := by rw [List.length_nil] at this; omega
    exact (List.eq_nil_of_length_eq_zero this).symm
  | d :: ds, [], e => by
    have := congrArg List.length e
    rw [run_len, run_len] at this
    simp at this
  | d :: ds, f :: es, e => by
    have A := fits_run pl h (d :: ds); have B := fits_run pl h (f :: es)
    have am : (run pl (d :: ds)).n ∈ (run pl (d :: ds)).pts := (step_mem _ _ _).mpr (.inl rfl)
    have bm : (run pl (f :: es)).n ∈ (run pl (f :: es)).pts := (step_mem _ _ _).mpr (.inl rfl)
    have en : (run pl (d :: ds)).n = (run pl (f :: es)).n := by
      have := A.all _ (e ▸ bm); have := B.all _ (e ▸ am); omega
    have place : ∀ (s : St) (d : Nat), ∃ k, (s.step d).i = k + 1 ∧ k < (s.step d).pts.length ∧ (s.step d).pts[k]? = some (s.step d).n ∧ k ≤ s.pts.length ∧ s.pts = (s.step d).pts.take k ++ (s.step d).pts.drop (k + 1) := by
      intro s d
      have hlt := Nat.mod_lt (s.i + d) (show 0 < s.pts.length + 1 by omega)
      refine ⟨(s.i + d) % (s.pts.length + 1), rfl, by rw [step_len]; omega, ?_, by omega, ?_⟩
      · simp only [St.step]
        rw [List.getElem?_append_right (by rw [List.length_take]; omega), List.length_take, show (s.i + d) % (s.pts.length + 1) - min ((s.i + d) % (s.pts.length + 1)) s.pts.length = 0 by omega]
        rfl
      · simp only [St.step]
        generalize (s.i + d) % (s.pts.length + 1) = r at *
        have hl : (s.pts.take r).length = r := by rw [List.length_take]; omega
        have e1 : (s.pts.take r ++ (s.n + ((s.i + d) / (s.pts.length + 1) : Nat)) :: s.pts.drop r).drop (r + 1) = s.pts.drop r := by
          rw [List.drop_append, hl, List.drop_of_length_le (by omega)]; simp
        have e2 : (s.pts.take r ++ (s.n + ((s.i + d) / (s.pts.length + 1) : Nat)) :: s.pts.drop r).take r = s.pts.take r := by
          rw [List.take_append, hl, List.take_of_length_le (by omega)]; simp
        rw [e1, e2, List.take_append_drop]
    obtain ⟨k, hk, hkl, hkn, hk2, hkp⟩ := place (run pl ds) d
    obtain ⟨m, hm, hml, hmn, hm2, hmp⟩ := place (run pl es) f
    have hA := A.hi; have hB := B.hi
    simp only [run] at e en hA hB
    rw [hk] at hA
    rw [hm] at hB
    have ekm : k = m := by
      rcases Nat.lt_trichotomy k m with hlt | heq | hlt
      · exfalso
        have : ((run pl es).step f).n < ((run pl ds).step d).n := hA _ (by
          rw [List.mem_iff_getElem?]
          refine ⟨m - (k + 1), ?_⟩
          rw [List.getElem?_drop, e, show k + 1 + (m - (k + 1)) = m by omega]; exact hmn)
        omega
      · exact heq
      · exfalso
        have : ((run pl ds).step d).n < ((run pl es).step f).n := hB _ (by
          rw [List.mem_iff_getElem?]
          refine ⟨k - (m + 1), ?_⟩
          rw [List.getElem?_drop, ← e, show m + 1 + (k - (m + 1)) = k by omega]; exact hkn)
        omega
    subst ekm
    have ep : (run pl ds).pts = (run pl es).pts := by rw [hkp, hmp, e]
    obtain rfl := run_inj pl h ds es ep
    have e1 := en; simp only [St.step] at e1
    have e2 : ((run pl ds).i + d) % ((run pl ds).pts.length + 1) = ((run pl ds).i + f) % ((run pl ds).pts.length + 1) := by
      have := hk.trans hm.symm
      simp only [St.step] at this; omega
    have e3 : ((run pl ds).i + d) / ((run pl ds).pts.length + 1) = ((run pl ds).i + f) / ((run pl ds).pts.length + 1) := by omega
    have a1 := Nat.div_add_mod ((run pl ds).i + d) ((run pl ds).pts.length + 1)
    have a2 := Nat.div_add_mod ((run pl ds).i + f) ((run pl ds).pts.length + 1)
    rw [e2, e3] at a1
    have : d = f := by omega
    rw [this]
end Go.Proofs.YtdncaehajhmcoaaGreat.P
/- Plain: what a text is read as (RD); what is written is read as itself; what is read is written so; how a row is written, step by step (EI). -/
namespace Go.Proofs.YtdncaehajhmcoaaGreat.P
open U
set_option linter.unusedVariables false

/-! ### Read -/
def rd : Nat → St → Nat → List Int → Option (List Int)
  | _, s, _, [] => some s.pts
  | 0, _, _, _ :: _ => none
  | f + 1, s, b, c :: cs => match rn b 36 s.i 1 (c :: cs) with
    | none => none
    | some (j, rest) => if scal (s.step (j - s.i)).n = true then rd f (s.step (j - s.i)) (adapt (j - s.i) (s.pts.length + 1) (s.i == 0)) rest else none
def RD (s : St) (b : Nat) (cs : List Int) : Option (List Int) := rd cs.length s b cs
theorem rd_fuel : ∀ (f g : Nat) (s : St) (b : Nat) (cs : List Int), cs.length ≤ f → cs.length ≤ g → rd f s b cs = rd g s b cs
  | f, g, s, b, [], _, _ => by cases f <;> cases g <;> rfl
  | 0, _, _, _, c :: cs, h, _ => by simp at h
  | f + 1, 0, _, _, c :: cs, _, h => by simp at h
  | f + 1, g + 1, s, b, c :: cs, hf, hg => by
    rw [rd, rd]
    cases hr : rn b 36 s.i 1 (c :: cs) with
    | none => rfl
    | some p =>
      obtain ⟨j, rest⟩ := p
      have := (rn_inv b _ _ _ _ _ _ hr).2.1
      simp only [List.length_cons] at this hf hg
      simp only
      rw [rd_fuel f g _ _ rest (by omega) (by omega)]
theorem RD_nil (s : St) (b : Nat) : RD s b [] = some s.pts := rfl
theorem RD_none (s : St) (b : Nat) (cs : List Int) (hne : cs ≠ []) (h : rn b 36 s.i 1 cs = none) : RD s b cs = none := by
  cases cs with
  | nil => exact absurd rfl hne
  | cons c cs => rw [RD, List.length_cons, rd, h]
theorem RD_bad (s : St) (b : Nat) (cs : List Int) (j : Nat) (rest : List Int) (h : rn b 36 s.i 1 cs = some (j, rest)) (hb : scal (s.step (j - s.i)).n = false) : RD s b cs = none := by
  cases cs with
  | nil => simp [rn] at h
  | cons c cs => rw [RD, List.length_cons, rd, h]; simp [hb]
theorem RD_next (s : St) (b : Nat) (cs : List Int) (j : Nat) (rest : List Int) (h : rn b 36 s.i 1 cs = some (j, rest)) (hb : scal (s.step (j - s.i)).n = true) :
    RD s b cs = RD (s.step (j - s.i)) (adapt (j - s.i) (s.pts.length + 1) (s.i == 0)) rest := by
  have hl := (rn_inv b _ _ _ _ _ _ h).2.1
  cases cs with
  | nil => simp [rn] at h
  | cons c cs =>
    rw [RD, List.length_cons, rd, h]
    simp only [hb, if_true, RD]
    simp only [List.length_cons] at hl
    exact rd_fuel _ _ _ _ _ (by omega) (Nat.le_refl _)
theorem bia_step (pl : List Int) (ds : List Nat) (d : Nat) : adapt d ((run pl ds).pts.length + 1) ((run pl ds).i == 0) = bia pl.length (d :: ds) := by
  rw [bia, run_len, run_i]
theorem scal_le {n : Int} (h : scal n = true) : 0 ≤ n ∧ n ≤ 1114111 := by
  unfold scal at h; simp at h; omega
/-- Written, it is read. -/
theorem RD_tx (pl : List Int) (hpl : ∀ x ∈ pl, x < 128) (rest : List Int) : ∀ ds : List Nat, (∀ x ∈ (run pl ds).pts, scal x = true) → pl.length + ds.length ≤ 63 → ∀ rest : List Int,
    RD (run pl []) (bia pl.length []) (tx pl.length ds ++ rest) = RD (run pl ds) (bia pl.length ds) rest
  | [], _, _, rest => rfl
  | d :: ds, hs, hl, rest => by
    have hm := step_mem (run pl ds) d
    rw [tx, List.append_assoc, RD_tx pl hpl rest ds (fun x hx => hs x ((hm x).mpr (.inr hx))) (by simp at hl; omega)]
    have hn := hs _ ((hm _).mpr (.inl rfl))
    have hb := scal_le hn
    have h128 := run_n pl ds
    have hi := (fits_run pl hpl ds).le
    have hL := run_len pl ds
    have hdm := Nat.div_add_mod ((run pl ds).i + d) ((run pl ds).pts.length + 1)
    have hlt := Nat.mod_lt ((run pl ds).i + d) (show 0 < (run pl ds).pts.length + 1 by omega)
    have hnn : (run pl ds).n + ((((run pl ds).i + d) / ((run pl ds).pts.length + 1) : Nat) : Int) ≤ 1114111 := hb.2
    have hq : ((run pl ds).i + d) / ((run pl ds).pts.length + 1) ≤ 1113983 := by omega
    have hprod : ((run pl ds).pts.length + 1) * (((run pl ds).i + d) / ((run pl ds).pts.length + 1)) ≤ 63 * 1113983 := Nat.mul_le_mul (by simp at hl; omega) hq
    simp only [List.length_cons] at hl
    have hd : (run pl ds).i + d ≤ 70180929 + 64 := by omega
    have hrn := rn_wn (bia pl.length ds) rest d 36 (run pl ds).i 1 (Nat.le_refl _) (by omega) (by omega) (fun _ => ⟨0, rfl, rfl⟩)
    rw [Nat.mul_one] at hrn
    have e : (run pl ds).i + d - (run pl ds).i = d := by omega
    rw [RD_next _ _ _ _ _ hrn (by rw [e]; exact hn), e, bia_step]
    rfl
theorem scal_low {x : Int} (h0 : 0 ≤ x) (h : x < 128) : scal x = true := by unfold scal; simp; omega
/-- Read, it is written so, but for capitals. -/
theorem RD_once (pl : List Int) (hpl : ∀ x ∈ pl, 0 ≤ x ∧ x < 128) : ∀ (f : Nat) (cs : List Int) (ds : List Nat) (pts : List Int), cs.length ≤ f → (∀ x ∈ (run pl ds).pts, scal x = true) →
    RD (run pl ds) (bia pl.length ds) cs = some pts → ∃ es, (run pl es).pts = pts ∧ tx pl.length es = tx pl.length ds ++ cs.map low ∧ ∀ x ∈ pts, scal x = true
  | f, [], ds, pts, _, hs, h => by
    obtain rfl := Option.some.inj h
    exact ⟨ds, rfl, by simp, hs⟩
  | 0, c :: cs, _, _, hf, _, _ => by simp at hf
  | f + 1, c :: cs, ds, pts, hf, hs, h => by
    cases hr : rn (bia pl.length ds) 36 (run pl ds).i 1 (c :: cs) with
    | none => rw [RD_none _ _ _ (by simp) hr] at h; cases h
    | some p =>
      obtain ⟨j, rest⟩ := p
      obtain ⟨h1, h2, ⟨q, h3, h4⟩, _⟩ := rn_inv _ _ _ _ _ _ _ hr
      have e : j - (run pl ds).i = q := by omega
      by_cases hb : scal ((run pl ds).step (j - (run pl ds).i)).n = true
      · rw [RD_next _ _ _ _ _ hr hb, e, bia_step] at h
        rw [e] at hb
        obtain ⟨es, a1, a2, a3⟩ := RD_once pl hpl f rest (q :: ds) pts (by simp only [List.length_cons] at h2 hf; omega) (fun x hx => by
          rcases (step_mem _ _ _).mp hx with rfl | hx
          · exact hb
          · exact hs x hx) h
        exact ⟨es, a1, by rw [a2, h4, tx, List.append_assoc], a3⟩
      · rw [RD_bad _ _ _ _ _ hr (by simpa using hb)] at h; cases h

/-! ### Written, step by step -/
def plain (l : List Int) : List Int := l.filter fun x => decide (x < 128)
def hd (p : List Int) : List Int := if p.length = 0 then [] else p ++ [45]
def had (l : List Int) (n : Int) (j : Nat) : List Int := (l.take j).filter (fun x => decide (x ≤ n)) ++ (l.drop j).filter (fun x => decide (x < n))
def cnt (l : List Int) (n : Int) (j : Nat) : Nat := ((l.take j).filter fun x => decide (x ≤ n)).length
structure EI (l : List Int) (n : Int) (j : Nat) (dl : Nat) (ds : List Nat) : Prop where
  pts : (run (plain l) ds).pts = had l n j
  le : (run (plain l) ds).n ≤ n
  eq : (dl : Int) + (run (plain l) ds).n * ((had l n j).length + 1) + (run (plain l) ds).i = n * ((had l n j).length + 1) + cnt l n j
theorem plain_lt (l : List Int) : ∀ x ∈ plain l, x < 128 := fun x hx => by simpa using (List.mem_filter.mp hx).2
theorem EI.start (l : List Int) : EI l 128 0 0 [] := by
  have : had l 128 0 = plain l := by simp [had, plain]
  exact ⟨this.symm, by simp [run], by simp [run, cnt]⟩
theorem EI.len {l : List Int} {n : Int} {j dl : Nat} {ds : List Nat} (h : EI l n j dl ds) : (had l n j).length = (plain l).length + ds.length := by
  rw [← h.pts, run_len]
theorem take_snoc (l : List Int) (j : Nat) (hj : j < l.length) : l.take (j + 1) = l.take j ++ [l[j]?.getD 0] := by
  rw [List.take_add_one, List.getElem?_eq_getElem hj]; rfl
theorem drop_snoc (l : List Int) (j : Nat) (hj : j < l.length) : l.drop j = l[j]?.getD 0 :: l.drop (j + 1) := by
  rw [List.drop_eq_getElem_cons hj, List.getElem?_eq_getElem hj]; rfl
theorem had_less (l : List Int) (n : Int) (j : Nat) (hj : j < l.length) (h : l[j]?.getD 0 < n) : had l n (j + 1) = had l n j ∧ cnt l n (j + 1) = cnt l n j + 1 := by
  unfold had cnt
  rw [take_snoc l j hj, drop_snoc l j hj, List.filter_append]
  simp [h, Int.le_of_lt h]
theorem had_more (l : List Int) (n : Int) (j : Nat) (hj : j < l.length) (h : n < l[j]?.getD 0) : had l n (j + 1) = had l n j ∧ cnt l n (j + 1) = cnt l n j := by
  unfold had cnt
  rw [take_snoc l j hj, drop_snoc l j hj, List.filter_append]
  have h1 : ¬ l[j]?.getD 0 ≤ n := by omega
  have h2 : ¬ l[j]?.getD 0 < n := by omega
  simp [h1, h2]
theorem EI.less {l : List Int} {n : Int} {j dl : Nat} {ds : List Nat} (h : EI l n j dl ds) (hj : j < l.length) (hx : l[j]?.getD 0 < n) : EI l n (j + 1) (dl + 1) ds := by
  obtain ⟨e1, e2⟩ := had_less l n j hj hx
  refine ⟨by rw [e1]; exact h.pts, h.le, ?_⟩
  have := h.eq
  rw [e1, e2]
  push_cast at *
  omega
theorem EI.more {l : List Int} {n : Int} {j dl : Nat} {ds : List Nat} (h : EI l n j dl ds) (hj : j < l.length) (hx : n < l[j]?.getD 0) : EI l n (j + 1) dl ds := by
  obtain ⟨e1, e2⟩ := had_more l n j hj hx
  exact ⟨by rw [e1]; exact h.pts, h.le, by rw [e1, e2]; exact h.eq⟩
theorem cnt_le (l : List Int) (n : Int) (j : Nat) : cnt l n j ≤ (had l n j).length := by unfold had cnt; rw [List.length_append]; omega
theorem had_le (l : List Int) (n : Int) (j : Nat) : (had l n j).length ≤ l.length := by
  unfold had
  rw [List.length_append]
  have a := List.length_filter_le (fun x => decide (x ≤ n)) (l.take j)
  have b := List.length_filter_le (fun x => decide (x < n)) (l.drop j)
  have : (l.take j).length + (l.drop j).length = l.length := by rw [← List.length_append, List.take_append_drop]
  omega
/-- The number at which the next one is put. -/
theorem EI.split {l : List Int} {n : Int} {j dl : Nat} {ds : List Nat} (h : EI l n j dl ds) :
    (run (plain l) ds).n + ((((run (plain l) ds).i + dl) / ((run (plain l) ds).pts.length + 1) : Nat) : Int) = n ∧ ((run (plain l) ds).i + dl) % ((run (plain l) ds).pts.length + 1) = cnt l n j := by
  have hc := cnt_le l n j
  have he := h.eq
  have hle := h.le
  rw [h.pts]
  generalize (run (plain l) ds).n = m at *
  generalize (run (plain l) ds).i = i at *
  generalize (had l n j).length = p at *
  generalize cnt l n j = c at *
  obtain ⟨u, rfl⟩ : ∃ u : Nat, n = m + u := ⟨(n - m).toNat, by omega⟩
  have e : i + dl = c + (p + 1) * u := by
    have : ((i + dl : Nat) : Int) = ((c + (p + 1) * u : Nat) : Int) := by
      push_cast
      have : (m + (u : Int)) * ((p : Int) + 1) = m * ((p : Int) + 1) + ((p : Int) + 1) * u := by rw [Int.add_mul, Int.mul_comm (u : Int)]
      omega
    exact_mod_cast this
  rw [e, Nat.add_mul_div_left _ _ (by omega), Nat.add_mul_mod_self_left, Nat.div_eq_of_lt (by omega), Nat.mod_eq_of_lt (by omega), Nat.zero_add]
  exact ⟨rfl, rfl⟩
theorem EI.put {l : List Int} {n : Int} {j dl : Nat} {ds : List Nat} (h : EI l n j dl ds) (hj : j < l.length) (hx : l[j]?.getD 0 = n) : EI l n (j + 1) 0 (dl :: ds) := by
  obtain ⟨e1, e2⟩ := h.split
  have hp := h.pts
  have hh : had l n (j + 1) = (l.take j).filter (fun x => decide (x ≤ n)) ++ n :: (l.drop (j + 1)).filter (fun x => decide (x < n)) := by
    unfold had
    rw [take_snoc l j hj, List.filter_append, hx]
    simp
  have hh0 : had l n j = (l.take j).filter (fun x => decide (x ≤ n)) ++ (l.drop (j + 1)).filter (fun x => decide (x < n)) := by
    unfold had
    rw [drop_snoc l j hj, hx]
    simp
  have hc : cnt l n (j + 1) = cnt l n j + 1 := by
    unfold cnt
    rw [take_snoc l j hj, List.filter_append, hx]
    simp
  have rn' : (run (plain l) (dl :: ds)).n = n := e1
  have ri' : (run (plain l) (dl :: ds)).i = cnt l n j + 1 := by show _ % _ + 1 = _; rw [e2]
  refine ⟨?_, by rw [rn']; exact Int.le_refl _, by rw [rn', ri', hc]; push_cast; omega⟩
  show (run (plain l) ds).pts.take _ ++ _ :: (run (plain l) ds).pts.drop _ = _
  rw [e1, e2, hp, hh, hh0]
  have ec : cnt l n j = ((l.take j).filter (fun x => decide (x ≤ n))).length := rfl
  rw [ec, List.take_left, List.drop_left]
theorem EI.pass {l : List Int} {n : Int} {dl : Nat} {ds : List Nat} (h : EI l n l.length dl ds) : EI l (n + 1) 0 (dl + 1) ds := by
  have e : had l (n + 1) 0 = had l n l.length := by
    unfold had
    simp
    exact List.filter_congr (fun x _ => by simp; omega)
  have ec : cnt l n l.length = (had l n l.length).length := by unfold had cnt; simp
  refine ⟨by rw [e]; exact h.pts, by have := h.le; omega, ?_⟩
  have := h.eq
  rw [e]
  rw [ec] at this
  rw [show cnt l (n + 1) 0 = 0 by simp [cnt]]
  have e2 : (n + 1) * (((had l n l.length).length : Int) + 1) = n * (((had l n l.length).length : Int) + 1) + (had l n l.length).length + 1 := by
    rw [Int.add_mul]; omega
  push_cast at *
  omega
theorem EI.jump {l : List Int} {n m : Int} {dl : Nat} {ds : List Nat} (h : EI l n 0 dl ds) (hm : n ≤ m) (hno : ∀ x ∈ l, ¬ (n ≤ x ∧ x < m)) :
    ∀ D : Nat, (D : Int) = dl + (m - n) * ((had l n 0).length + 1) → EI l m 0 D ds := by
  intro D hD
  have e : had l m 0 = had l n 0 := by
    unfold had
    simp
    exact List.filter_congr (fun x hx => by have := hno x hx; simp; omega)
  refine ⟨by rw [e]; exact h.pts, by have := h.le; omega, ?_⟩
  have := h.eq
  rw [e, hD]
  rw [show cnt l n 0 = 0 by simp [cnt]] at this
  rw [show cnt l m 0 = 0 by simp [cnt]]
  rw [Int.sub_mul]
  omega
theorem EI.fin {l : List Int} {n : Int} {dl : Nat} {ds : List Nat} (h : EI l n 0 dl ds) (hl : l.length ≤ (had l n 0).length) : (run (plain l) ds).pts = l := by
  rw [h.pts]
  have e : had l n 0 = l.filter fun x => decide (x < n) := by simp [had]
  rw [e] at hl ⊢
  have : (l.filter fun x => decide (x < n)).length = l.length := by
    have := List.length_filter_le (fun x => decide (x < n)) l; omega
  exact (List.filter_sublist (p := fun x => decide (x < n)) (l := l)).eq_of_length this
/-- There is one left that is not less than n. -/
theorem EI.left {l : List Int} {n : Int} {dl : Nat} {ds : List Nat} (hl : (had l n 0).length < l.length) : ∃ x ∈ l, n ≤ x := by
  apply Classical.byContradiction
  intro hno
  have e : had l n 0 = l := by
    simp only [had, List.take_zero, List.filter_nil, List.nil_append, List.drop_zero]
    rw [List.filter_eq_self]
    intro x hx
    have : ¬ n ≤ x := fun hc => hno ⟨x, hx, hc⟩
    simp; omega
  rw [e] at hl; omega
theorem EI.bound {l : List Int} {n : Int} {j dl : Nat} {ds : List Nat} (h : EI l n j dl ds) (hn : n ≤ 1114112) (hl : l.length ≤ 63) : dl ≤ 71303231 := by
  have h1 := h.eq
  have hc := cnt_le l n j
  have hh := had_le l n j
  have h128 := run_n (plain l) ds
  generalize (run (plain l) ds).n = m at *
  generalize (run (plain l) ds).i = i at *
  generalize (had l n j).length = p at *
  have a : n * ((p : Int) + 1) ≤ 1114112 * ((p : Int) + 1) := Int.mul_le_mul_of_nonneg_right hn (by omega)
  have b : 0 ≤ m * ((p : Int) + 1) := Int.mul_nonneg (by omega) (by omega)
  omega
/-- How l is written. -/
def Enc (l T : List Int) : Prop := ∃ ds, T = hd (plain l) ++ tx (plain l).length ds ∧ (run (plain l) ds).pts = l
theorem Enc.one {l T T' : List Int} (h : Enc l T) (h' : Enc l T') : T = T' := by
  obtain ⟨ds, rfl, e⟩ := h
  obtain ⟨es, rfl, e'⟩ := h'
  rw [run_inj (plain l) (plain_lt l) ds es (e.trans e'.symm)]
end Go.Proofs.YtdncaehajhmcoaaGreat.P
