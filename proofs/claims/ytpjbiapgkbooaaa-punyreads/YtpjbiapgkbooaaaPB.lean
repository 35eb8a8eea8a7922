/- Plain: what a text is read as (RD); what is written is read as itself; what is read is written so; how a row is written, step by step (EI). -/
import Derived.Test.YtpjbiapgkbooaaaPA
import Derived.Test.YtpjbiapgkbooaaaUM
namespace Go.Proofs.Ytpjbiapgkbooaaa
open U
set_option linter.unusedVariables false

/-! ### Read -/
def rd : Nat → St → Nat → List Int → Option (List Int)
  | _, s, _, [] => some s.pts
  | 0, _, _, _ :: _ => none
  | f + 1, s, b, c :: cs => match rn b 36 s.i 1 (c :: cs) with
    | none => none
    | some (j, rest) => if scal (s.step (j - s.i)).n = true then rd f (s.step (j - s.i)) (adapt (j - s.i) (s.pts.length + 1) (s.i == 0)) rest else none
def RD (s : St) (b : Nat) (cs : List Int) : Option (List Int) := rd cs.length s b cs
theorem rd_fuel : ∀ (f g : Nat) (s : St) (b : Nat) (cs : List Int), cs.length ≤ f → cs.length ≤ g → rd f s b cs = rd g s b cs
  | f, g, s, b, [], _, _ => by cases f <;> cases g <;> rfl
  | 0, _, _, _, c :: cs, h, _ => by simp at h
  | f + 1, 0, _, _, c :: cs, _, h => by simp at h
  | f + 1, g + 1, s, b, c :: cs, hf, hg => by
    rw [rd, rd]
    cases hr : rn b 36 s.i 1 (c :: cs) with
    | none => rfl
    | some p =>
      obtain ⟨j, rest⟩ := p
      have := (rn_inv b _ _ _ _ _ _ hr).2.1
      simp only [List.length_cons] at this hf hg
      simp only
      rw [rd_fuel f g _ _ rest (by omega) (by omega)]
theorem RD_nil (s : St) (b : Nat) : RD s b [] = some s.pts := rfl
theorem RD_none (s : St) (b : Nat) (cs : List Int) (hne : cs ≠ []) (h : rn b 36 s.i 1 cs = none) : RD s b cs = none := by
  cases cs with
  | nil => exact absurd rfl hne
  | cons c cs => rw [RD, List.length_cons, rd, h]
theorem RD_bad (s : St) (b : Nat) (cs : List Int) (j : Nat) (rest : List Int) (h : rn b 36 s.i 1 cs = some (j, rest)) (hb : scal (s.step (j - s.i)).n = false) : RD s b cs = none := by
  cases cs with
  | nil => simp [rn] at h
  | cons c cs => rw [RD, List.length_cons, rd, h]; simp [hb]
theorem RD_next (s : St) (b : Nat) (cs : List Int) (j : Nat) (rest : List Int) (h : rn b 36 s.i 1 cs = some (j, rest)) (hb : scal (s.step (j - s.i)).n = true) :
    RD s b cs = RD (s.step (j - s.i)) (adapt (j - s.i) (s.pts.length + 1) (s.i == 0)) rest := by
  have hl := (rn_inv b _ _ _ _ _ _ h).2.1
  cases cs with
  | nil => simp [rn] at h
  | cons c cs =>
    rw [RD, List.length_cons, rd, h]
    simp only [hb, if_true, RD]
    simp only [List.length_cons] at hl
    exact rd_fuel _ _ _ _ _ (by omega) (Nat.le_refl _)
theorem bia_step (pl : List Int) (ds : List Nat) (d : Nat) : adapt d ((run pl ds).pts.length + 1) ((run pl ds).i == 0) = bia pl.length (d :: ds) := by
  rw [bia, run_len, run_i]
theorem scal_le {n : Int} (h : scal n = true) : 0 ≤ n ∧ n ≤ 1114111 := by
  unfold scal at h; simp at h; omega
/-- Written, it is read. -/
theorem RD_tx (pl : List Int) (hpl : ∀ x ∈ pl, x < 128) (rest : List Int) : ∀ ds : List Nat, (∀ x ∈ (run pl ds).pts, scal x = true) → pl.length + ds.length ≤ 63 → ∀ rest : List Int,
    RD (run pl []) (bia pl.length []) (tx pl.length ds ++ rest) = RD (run pl ds) (bia pl.length ds) rest
  | [], _, _, rest => rfl
  | d :: ds, hs, hl, rest => by
    have hm := step_mem (run pl ds) d
    rw [tx, List.append_assoc, RD_tx pl hpl rest ds (fun x hx => hs x ((hm x).mpr (.inr hx))) (by simp at hl; omega)]
    have hn := hs _ ((hm _).mpr (.inl rfl))
    have hb := scal_le hn
    have h128 := run_n pl ds
    have hi := (fits_run pl hpl ds).le
    have hL := run_len pl ds
    have hdm := Nat.div_add_mod ((run pl ds).i + d) ((run pl ds).pts.length + 1)
    have hlt := Nat.mod_lt ((run pl ds).i + d) (show 0 < (run pl ds).pts.length + 1 by omega)
    have hnn : (run pl ds).n + ((((run pl ds).i + d) / ((run pl ds).pts.length + 1) : Nat) : Int) ≤ 1114111 := hb.2
    have hq : ((run pl ds).i + d) / ((run pl ds).pts.length + 1) ≤ 1113983 := by omega
    have hprod : ((run pl ds).pts.length + 1) * (((run pl ds).i + d) / ((run pl ds).pts.length + 1)) ≤ 63 * 1113983 := Nat.mul_le_mul (by simp at hl; omega) hq
    simp only [List.length_cons] at hl
    have hd : (run pl ds).i + d ≤ 70180929 + 64 := by omega
    have hrn := rn_wn (bia pl.length ds) rest d 36 (run pl ds).i 1 (Nat.le_refl _) (by omega) (by omega) (fun _ => ⟨0, rfl, rfl⟩)
    rw [Nat.mul_one] at hrn
    have e : (run pl ds).i + d - (run pl ds).i = d := by omega
    rw [RD_next _ _ _ _ _ hrn (by rw [e]; exact hn), e, bia_step]
    rfl
theorem scal_low {x : Int} (h0 : 0 ≤ x) (h : x < 128) : scal x = true := by unfold scal; simp; omega
/-- Read, it is written so, but for capitals. -/
theorem RD_once (pl : List Int) (hpl : ∀ x ∈ pl, 0 ≤ x ∧ x < 128) : ∀ (f : Nat) (cs : List Int) (ds : List Nat) (pts : List Int), cs.length ≤ f → (∀ x ∈ (run pl ds).pts, scal x = true) →
    RD (run pl ds) (bia pl.length ds) cs = some pts → ∃ es, (run pl es).pts = pts ∧ tx pl.length es = tx pl.length ds ++ cs.map low ∧ ∀ x ∈ pts, scal x = true
  | f, [], ds, pts, _, hs, h => by
    obtain rfl := Option.some.inj h
    exact ⟨ds, rfl, by simp, hs⟩
  | 0, c :: cs, _, _, hf, _, _ => by simp at hf
  | f + 1, c :: cs, ds, pts, hf, hs, h => by
    cases hr : rn (bia pl.length ds) 36 (run pl ds).i 1 (c :: cs) with
    | none => rw [RD_none _ _ _ (by simp) hr] at h; cases h
    | some p =>
      obtain ⟨j, rest⟩ := p
      obtain ⟨h1, h2, ⟨q, h3, h4⟩, _⟩ := rn_inv _ _ _ _ _ _ _ hr
      have e : j - (run pl ds).i = q := by omega
      by_cases hb : scal ((run pl ds).step (j - (run pl ds).i)).n = true
      · rw [RD_next _ _ _ _ _ hr hb, e, bia_step] at h
        rw [e] at hb
        obtain ⟨es, a1, a2, a3⟩ := RD_once pl hpl f rest (q :: ds) pts (by simp only [List.length_cons] at h2 hf; omega) (fun x hx => by
          rcases (step_mem _ _ _).mp hx with rfl | hx
          · exact hb
          · exact hs x hx) h
        exact ⟨es, a1, by rw [a2, h4, tx, List.append_assoc], a3⟩
      · rw [RD_bad _ _ _ _ _ hr (by simpa using hb)] at h; cases h

/-! ### Written, step by step -/
def plain (l : List Int) : List Int := l.filter fun x => decide (x < 128)
def hd (p : List Int) : List Int := if p.length = 0 then [] else p ++ [45]
def had (l : List Int) (n : Int) (j : Nat) : List Int := (l.take j).filter (fun x => decide (x ≤ n)) ++ (l.drop j).filter (fun x => decide (x < n))
def cnt (l : List Int) (n : Int) (j : Nat) : Nat := ((l.take j).filter fun x => decide (x ≤ n)).length
structure EI (l : List Int) (n : Int) (j : Nat) (dl : Nat) (ds : List Nat) : Prop where
  pts : (run (plain l) ds).pts = had l n j
  le : (run (plain l) ds).n ≤ n
  eq : (dl : Int) + (run (plain l) ds).n * ((had l n j).length + 1) + (run (plain l) ds).i = n * ((had l n j).length + 1) + cnt l n j
theorem plain_lt (l : List Int) : ∀ x ∈ plain l, x < 128 := fun x hx => by simpa using (List.mem_filter.mp hx).2
theorem EI.start (l : List Int) : EI l 128 0 0 [] := by
  have : had l 128 0 = plain l := by simp [had, plain]
  exact ⟨this.symm, by simp [run], by simp [run, cnt]⟩
theorem EI.len {l : List Int} {n : Int} {j dl : Nat} {ds : List Nat} (h : EI l n j dl ds) : (had l n j).length = (plain l).length + ds.length := by
  rw [← h.pts, run_len]
theorem take_snoc (l : List Int) (j : Nat) (hj : j < l.length) : l.take (j + 1) = l.take j ++ [l[j]?.getD 0] := by
  rw [List.take_add_one, List.getElem?_eq_getElem hj]; rfl
theorem drop_snoc (l : List Int) (j : Nat) (hj : j < l.length) : l.drop j = l[j]?.getD 0 :: l.drop (j + 1) := by
  rw [List.drop_eq_getElem_cons hj, List.getElem?_eq_getElem hj]; rfl
theorem had_less (l : List Int) (n : Int) (j : Nat) (hj : j < l.length) (h : l[j]?.getD 0 < n) : had l n (j + 1) = had l n j ∧ cnt l n (j + 1) = cnt l n j + 1 := by
  unfold had cnt
  rw [take_snoc l j hj, drop_snoc l j hj, List.filter_append]
  simp [h, Int.le_of_lt h]
theorem had_more (l : List Int) (n : Int) (j : Nat) (hj : j < l.length) (h : n < l[j]?.getD 0) : had l n (j + 1) = had l n j ∧ cnt l n (j + 1) = cnt l n j := by
  unfold had cnt
  rw [take_snoc l j hj, drop_snoc l j hj, List.filter_append]
  have h1 : ¬ l[j]?.getD 0 ≤ n := by omega
  have h2 : ¬ l[j]?.getD 0 < n := by omega
  simp [h1, h2]
theorem EI.less {l : List Int} {n : Int} {j dl : Nat} {ds : List Nat} (h : EI l n j dl ds) (hj : j < l.length) (hx : l[j]?.getD 0 < n) : EI l n (j + 1) (dl + 1) ds := by
  obtain ⟨e1, e2⟩ := had_less l n j hj hx
  refine ⟨by rw [e1]; exact h.pts, h.le, ?_⟩
  have := h.eq
  rw [e1, e2]
  push_cast at *
  omega
theorem EI.more {l : List Int} {n : Int} {j dl : Nat} {ds : List Nat} (h : EI l n j dl ds) (hj : j < l.length) (hx : n < l[j]?.getD 0) : EI l n (j + 1) dl ds := by
  obtain ⟨e1, e2⟩ := had_more l n j hj hx
  exact ⟨by rw [e1]; exact h.pts, h.le, by rw [e1, e2]; exact h.eq⟩
theorem cnt_le (l : List Int) (n : Int) (j : Nat) : cnt l n j ≤ (had l n j).length := by unfold had cnt; rw [List.length_append]; omega
theorem had_le (l : List Int) (n : Int) (j : Nat) : (had l n j).length ≤ l.length := by
  unfold had
  rw [List.length_append]
  have a := List.length_filter_le (fun x => decide (x ≤ n)) (l.take j)
  have b := List.length_filter_le (fun x => decide (x < n)) (l.drop j)
  have : (l.take j).length + (l.drop j).length = l.length := by rw [← List.length_append, List.take_append_drop]
  omega
/-- The number at which the next one is put. -/
theorem EI.split {l : List Int} {n : Int} {j dl : Nat} {ds : List Nat} (h : EI l n j dl ds) :
    (run (plain l) ds).n + ((((run (plain l) ds).i + dl) / ((run (plain l) ds).pts.length + 1) : Nat) : Int) = n ∧ ((run (plain l) ds).i + dl) % ((run (plain l) ds).pts.length + 1) = cnt l n j := by
  have hc := cnt_le l n j
  have he := h.eq
  have hle := h.le
  rw [h.pts]
  generalize (run (plain l) ds).n = m at *
  generalize (run (plain l) ds).i = i at *
  generalize (had l n j).length = p at *
  generalize cnt l n j = c at *
  obtain ⟨u, rfl⟩ : ∃ u : Nat, n = m + u := ⟨(n - m).toNat, by omega⟩
  have e : i + dl = c + (p + 1) * u := by
    have : ((i + dl : Nat) : Int) = ((c + (p + 1) * u : Nat) : Int) := by
      push_cast
      have : (m + (u : Int)) * ((p : Int) + 1) = m * ((p : Int) + 1) + ((p : Int) + 1) * u := by rw [Int.add_mul, Int.mul_comm (u : Int)]
      omega
    exact_mod_cast this
  rw [e, Nat.add_mul_div_left _ _ (by omega), Nat.add_mul_mod_self_left, Nat.div_eq_of_lt (by omega), Nat.mod_eq_of_lt (by omega), Nat.zero_add]
  exact ⟨rfl, rfl⟩
theorem EI.put {l : List Int} {n : Int} {j dl : Nat} {ds : List Nat} (h : EI l n j dl ds) (hj : j < l.length) (hx : l[j]?.getD 0 = n) : EI l n (j + 1) 0 (dl :: ds) := by
  obtain ⟨e1, e2⟩ := h.split
  have hp := h.pts
  have hh : had l n (j + 1) = (l.take j).filter (fun x => decide (x ≤ n)) ++ n :: (l.drop (j + 1)).filter (fun x => decide (x < n)) := by
    unfold had
    rw [take_snoc l j hj, List.filter_append, hx]
    simp
  have hh0 : had l n j = (l.take j).filter (fun x => decide (x ≤ n)) ++ (l.drop (j + 1)).filter (fun x => decide (x < n)) := by
    unfold had
    rw [drop_snoc l j hj, hx]
    simp
  have hc : cnt l n (j + 1) = cnt l n j + 1 := by
    unfold cnt
    rw [take_snoc l j hj, List.filter_append, hx]
    simp
  have rn' : (run (plain l) (dl :: ds)).n = n := e1
  have ri' : (run (plain l) (dl :: ds)).i = cnt l n j + 1 := by show _ % _ + 1 = _; rw [e2]
  refine ⟨?_, by rw [rn']; exact Int.le_refl _, by rw [rn', ri', hc]; push_cast; omega⟩
  show (run (plain l) ds).pts.take _ ++ _ :: (run (plain l) ds).pts.drop _ = _
  rw [e1, e2, hp, hh, hh0]
  have ec : cnt l n j = ((l.take j).filter (fun x => decide (x ≤ n))).length := rfl
  rw [ec, List.take_left, List.drop_left]
theorem EI.pass {l : List Int} {n : Int} {dl : Nat} {ds : List Nat} (h : EI l n l.length dl ds) : EI l (n + 1) 0 (dl + 1) ds := by
  have e : had l (n + 1) 0 = had l n l.length := by
    unfold had
    simp
    exact List.filter_congr (fun x _ => by simp; omega)
  have ec : cnt l n l.length = (had l n l.length).length := by unfold had cnt; simp
  refine ⟨by rw [e]; exact h.pts, by have := h.le; omega, ?_⟩
  have := h.eq
  rw [e]
  rw [ec] at this
  rw [show cnt l (n + 1) 0 = 0 by simp [cnt]]
  have e2 : (n + 1) * (((had l n l.length).length : Int) + 1) = n * (((had l n l.length).length : Int) + 1) + (had l n l.length).length + 1 := by
    rw [Int.add_mul]; omega
  push_cast at *
  omega
theorem EI.jump {l : List Int} {n m : Int} {dl : Nat} {ds : List Nat} (h : EI l n 0 dl ds) (hm : n ≤ m) (hno : ∀ x ∈ l, ¬ (n ≤ x ∧ x < m)) :
    ∀ D : Nat, (D : Int) = dl + (m - n) * ((had l n 0).length + 1) → EI l m 0 D ds := by
  intro D hD
  have e : had l m 0 = had l n 0 := by
    unfold had
    simp
    exact List.filter_congr (fun x hx => by have := hno x hx; simp; omega)
  refine ⟨by rw [e]; exact h.pts, by have := h.le; omega, ?_⟩
  have := h.eq
  rw [e, hD]
  rw [show cnt l n 0 = 0 by simp [cnt]] at this
  rw [show cnt l m 0 = 0 by simp [cnt]]
  rw [Int.sub_mul]
  omega
theorem EI.fin {l : List Int} {n : Int} {dl : Nat} {ds : List Nat} (h : EI l n 0 dl ds) (hl : l.length ≤ (had l n 0).length) : (run (plain l) ds).pts = l := by
  rw [h.pts]
  have e : had l n 0 = l.filter fun x => decide (x < n) := by simp [had]
  rw [e] at hl ⊢
  have : (l.filter fun x => decide (x < n)).length = l.length := by
    have := List.length_filter_le (fun x => decide (x < n)) l; omega
  exact (List.filter_sublist (p := fun x => decide (x < n)) (l := l)).eq_of_length this
/-- There is one left that is not less than n. -/
theorem EI.left {l : List Int} {n : Int} {dl : Nat} {ds : List Nat} (hl : (had l n 0).length < l.length) : ∃ x ∈ l, n ≤ x := by
  apply Classical.byContradiction
  intro hno
  have e : had l n 0 = l := by
    simp only [had, List.take_zero, List.filter_nil, List.nil_append, List.drop_zero]
    rw [List.filter_eq_self]
    intro x hx
    have : ¬ n ≤ x := fun hc => hno ⟨x, hx, hc⟩
    simp; omega
  rw [e] at hl; omega
theorem EI.bound {l : List Int} {n : Int} {j dl : Nat} {ds : List Nat} (h : EI l n j dl ds) (hn : n ≤ 1114112) (hl : l.length ≤ 63) : dl ≤ 71303231 := by
  have h1 := h.eq
  have hc := cnt_le l n j
  have hh := had_le l n j
  have h128 := run_n (plain l) ds
  generalize (run (plain l) ds).n = m at *
  generalize (run (plain l) ds).i = i at *
  generalize (had l n j).length = p at *
  have a : n * ((p : Int) + 1) ≤ 1114112 * ((p : Int) + 1) := Int.mul_le_mul_of_nonneg_right hn (by omega)
  have b : 0 ≤ m * ((p : Int) + 1) := Int.mul_nonneg (by omega) (by omega)
  omega
/-- How l is written. -/
def Enc (l T : List Int) : Prop := ∃ ds, T = hd (plain l) ++ tx (plain l).length ds ∧ (run (plain l) ds).pts = l
theorem Enc.one {l T T' : List Int} (h : Enc l T) (h' : Enc l T') : T = T' := by
  obtain ⟨ds, rfl, e⟩ := h
  obtain ⟨es, rfl, e'⟩ := h'
  rw [run_inj (plain l) (plain_lt l) ds es (e.trans e'.symm)]
end Go.Proofs.Ytpjbiapgkbooaaa
