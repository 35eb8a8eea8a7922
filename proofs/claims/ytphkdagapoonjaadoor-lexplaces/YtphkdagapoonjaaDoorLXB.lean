/- Plain: texts in quotes are read as they were written; what is valid. (Stage 15.) -/
import Derived.Test.YtphkdagapoonjaaDoorLXA
namespace Go.Proofs.YtphkdagapoonjaaDoor.Lx
open Go.Proofs.YtphkdagapoonjaaDoor.U (nx enc encs scal val Bytes)
set_option linter.unusedVariables false

/-! ### Digits, backslashes -/
theorem hd_dg : ∀ n : Fin 16, dg (hd n.val) = n.val ∧ isd (hd n.val) = true := by decide
theorem hd_is {n : Int} (h0 : 0 ≤ n) (h1 : n < 16) : dg (hd n) = n ∧ isd (hd n) = true := by
  have := hd_dg ⟨n.toNat, by omega⟩
  simp only at this
  rw [Int.toNat_of_nonneg h0] at this
  exact this
theorem isd_end : isd 125 = false := by decide
theorem es_sign {c : Int} (h : c = 34 ∨ c = 92) (r : List Int) : es (92 :: c :: r) = ([c], 2) := by
  unfold es
  rw [show (92 :: c :: r).getD 1 0 = c from rfl, if_pos h]
theorem es_one {c : Int} (h0 : 0 ≤ c) (h1 : c < 16) (r : List Int) : es (92 :: 117 :: 123 :: hd c :: 125 :: r) = ([c], 5) := by
  have hh := hd_is h0 h1
  have hds : ds (92 :: 117 :: 123 :: hd c :: 125 :: r) = [hd c] := by
    unfold ds
    show ((hd c :: 125 :: r).take 6).takeWhile isd = _
    rw [List.take_succ_cons, List.take_succ_cons, List.takeWhile_cons_of_pos hh.2, List.takeWhile_cons_of_neg (by rw [isd_end]; simp)]
  have hv1 : hv [hd c] = c := by unfold hv; simp [hh.1]
  have hsc : scal c = true := by unfold scal; simp; omega
  unfold es
  rw [hds, hv1, show (92 :: 117 :: 123 :: hd c :: 125 :: r).getD 1 0 = 117 from rfl, if_neg (by decide), if_pos ⟨rfl, rfl, by simp, rfl, hsc⟩, show enc c = [c] by unfold enc; rw [if_pos (by omega)]]
  rfl
theorem es_two {c : Int} (h0 : 0 ≤ c) (h1 : c < 128) (r : List Int) : es (92 :: 117 :: 123 :: hd (c / 16) :: hd (c % 16) :: 125 :: r) = ([c], 6) := by
  have ha := hd_is (n := c / 16) (by omega) (by omega)
  have hb := hd_is (n := c % 16) (by omega) (by omega)
  have hds : ds (92 :: 117 :: 123 :: hd (c / 16) :: hd (c % 16) :: 125 :: r) = [hd (c / 16), hd (c % 16)] := by
    unfold ds
    show ((hd (c / 16) :: hd (c % 16) :: 125 :: r).take 6).takeWhile isd = _
    rw [List.take_succ_cons, List.take_succ_cons, List.take_succ_cons, List.takeWhile_cons_of_pos ha.2, List.takeWhile_cons_of_pos hb.2, List.takeWhile_cons_of_neg (by rw [isd_end]; simp)]
  have hv1 : hv [hd (c / 16), hd (c % 16)] = c := by unfold hv; simp [ha.1, hb.1]; omega
  have hsc : scal c = true := by unfold scal; simp; omega
  unfold es
  rw [hds, hv1, show (92 :: 117 :: 123 :: hd (c / 16) :: hd (c % 16) :: 125 :: r).getD 1 0 = 117 from rfl, if_neg (by decide), if_pos ⟨rfl, rfl, by simp, rfl, hsc⟩, show enc c = [c] by unfold enc; rw [if_pos (by omega)]]
  rfl
/-- What a byte is written as, one step of a text's reading takes. -/
theorem tx_qb {c : Int} (h0 : 0 ≤ c) (f : Nat) (t r : List Int) (i : Nat) : tx (f + 1) t (qb c ++ r) i = tx f (t ++ [c]) r (i + (qb c).length) := by
  unfold qb
  by_cases h1 : c = 34 ∨ c = 92
  · rw [if_pos h1]
    show tx (f + 1) t (92 :: c :: r) i = _
    rw [tx, if_neg (by decide), if_neg (by decide), es_sign h1, if_neg (by simp)]
    rfl
  · rw [if_neg h1]
    by_cases h2 : c < 16
    · rw [if_pos h2]
      show tx (f + 1) t (92 :: 117 :: 123 :: hd c :: 125 :: r) i = _
      rw [tx, if_neg (by decide), if_neg (by decide), es_one h0 h2, if_neg (by simp)]
      rfl
    · rw [if_neg h2]
      by_cases h3 : c < 32 ∨ c = 127
      · rw [if_pos h3]
        show tx (f + 1) t (92 :: 117 :: 123 :: hd (c / 16) :: hd (c % 16) :: 125 :: r) i = _
        rw [tx, if_neg (by decide), if_neg (by decide), es_two h0 (by omega), if_neg (by simp)]
        rfl
      · rw [if_neg h3]
        show tx (f + 1) t (c :: r) i = _
        rw [tx, if_neg (by omega), if_pos (by omega)]
        rfl
theorem qb_pos (c : Int) : 1 ≤ (qb c).length := by unfold qb; (repeat' split) <;> simp
theorem qb_len (c : Int) : (qb c).length ≤ 6 := by unfold qb; (repeat' split) <;> simp
theorem tx_qt : ∀ (x : List Int) (f : Nat) (t r : List Int) (i : Nat), Bytes x → x.length < f → tx f t (x.flatMap qb ++ 34 :: r) i = (t ++ x, i + (x.flatMap qb).length + 1, 0)
  | [], f, t, r, i, _, hf => by
    obtain ⟨f, rfl⟩ : ∃ g, f = g + 1 := ⟨f - 1, by omega⟩
    show tx (f + 1) t (34 :: r) i = _
    rw [tx, if_pos rfl]; simp
  | c :: x, f, t, r, i, hb, hf => by
    obtain ⟨f, rfl⟩ : ∃ g, f = g + 1 := ⟨f - 1, by omega⟩
    rw [List.flatMap_cons, List.append_assoc, tx_qb (hb c (by simp)).1, tx_qt x f (t ++ [c]) r _ (fun b hb' => hb b (by simp [hb'])) (by simpa using hf)]
    simp only [List.append_assoc, List.cons_append, List.nil_append, List.length_append, Prod.mk.injEq, true_and, and_true]
    omega
/-! ### What is valid -/
/-- Made of code points. -/
def EV (l : List Int) : Prop := ∃ zs : List Int, zs.all scal = true ∧ l = encs zs
theorem EV.nil : EV [] := ⟨[], rfl, rfl⟩
theorem encs_app (a b : List Int) : encs (a ++ b) = encs a ++ encs b := by unfold encs; exact List.flatMap_append
theorem EV.app {a b : List Int} : EV a → EV b → EV (a ++ b) := by
  rintro ⟨x, h1, rfl⟩ ⟨y, h2, rfl⟩
  exact ⟨x ++ y, by rw [List.all_append, h1, h2]; rfl, (encs_app x y).symm⟩
theorem EV.val {l : List Int} : EV l → val l = true := by
  rintro ⟨zs, h, rfl⟩
  exact (U.back zs h).2
theorem EV.of {l : List Int} (hb : Bytes l) (h : U.val l = true) : EV l := ⟨U.dec l, U.dec_scal l.length l (Nat.le_refl _) hb, (U.clean_of_val l.length l (Nat.le_refl _) hb h).symm⟩
theorem EV.low : ∀ {l : List Int}, (∀ c ∈ l, 0 ≤ c ∧ c < 128) → EV l
  | [], _ => EV.nil
  | c :: l, h => by
    have hc := h c (by simp)
    have : EV [c] := ⟨[c], by simp [scal]; omega, by unfold encs enc; simp; omega⟩
    exact this.app (EV.low (l := l) (fun x hx => h x (by simp [hx])))
theorem EV.enc {c : Int} (h : scal c = true) : EV (enc c) := ⟨[c], by simp [h], by unfold encs; simp⟩
theorem hd_low {n : Int} (h0 : 0 ≤ n) (h1 : n < 16) : 0 ≤ hd n ∧ hd n < 128 := by unfold hd; split <;> omega
theorem qb_low {c : Int} (h0 : 0 ≤ c) (h1 : c < 128) : ∀ d ∈ qb c, 32 ≤ d ∧ d < 127 := by
  have a := hd_is (n := c % 16) (by omega) (by omega)
  intro d hd'
  unfold qb at hd'
  have e1 : 48 ≤ hd (c / 16) ∧ hd (c / 16) < 127 := by unfold hd; split <;> omega
  have e2 : 48 ≤ hd (c % 16) ∧ hd (c % 16) < 127 := by unfold hd; split <;> omega
  have e3 : c < 16 → 48 ≤ hd c ∧ hd c < 127 := fun h => by unfold hd; split <;> omega
  (repeat' split at hd') <;> simp at hd' <;> omega
theorem qb_high {c : Int} (h : 128 ≤ c) : qb c = [c] := by unfold qb; rw [if_neg (by omega), if_neg (by omega), if_neg (by omega)]
theorem enc_high {c : Int} (h0 : 128 ≤ c) : ∀ d ∈ enc c, 128 ≤ d := by
  intro d hd'
  unfold enc at hd'
  (repeat' split at hd') <;> simp at hd' <;> omega
theorem flat_high : ∀ {l : List Int}, (∀ d ∈ l, 128 ≤ d) → l.flatMap qb = l
  | [], _ => rfl
  | c :: l, h => by rw [List.flatMap_cons, qb_high (h c (by simp)), flat_high (l := l) (fun d hd => h d (by simp [hd]))]; rfl
theorem EV.qbs : ∀ {zs : List Int}, zs.all scal = true → EV ((encs zs).flatMap qb)
  | [], _ => EV.nil
  | c :: zs, h => by
    simp only [List.all_cons, Bool.and_eq_true] at h
    have e : encs (c :: zs) = U.enc c ++ encs zs := by unfold encs; rw [List.flatMap_cons]
    rw [e, List.flatMap_append]
    refine EV.app ?_ (EV.qbs h.2)
    by_cases hc : c < 128
    · have h0 : 0 ≤ c := by have := h.1; unfold scal at this; simp at this; omega
      rw [show U.enc c = [c] by unfold U.enc; rw [if_pos hc], List.flatMap_cons, List.flatMap_nil, List.append_nil]
      exact EV.low (fun d hd => by have := qb_low h0 hc d hd; omega)
    · rw [flat_high (enc_high (by omega))]
      exact EV.enc h.1
theorem EV.qt {x : List Int} (h : EV x) : EV (qt x) := by
  obtain ⟨zs, h1, rfl⟩ := h
  unfold Lx.qt
  show EV ([34] ++ _)
  exact (EV.low (l := [34]) (by simp)).app ((EV.qbs h1).app (EV.low (l := [34]) (by simp)))
theorem bdF_none : ∀ (f : Nat) (l : List Int) (k : Nat), l.length ≤ f → Bytes l → (bdF f l k = none ↔ val l = true)
  | 0, l, k, h, _ => by
    have : l = [] := List.length_eq_zero_iff.1 (by omega)
    subst this
    simp [bdF, U.val_nil]
  | f + 1, l, k, h, hb => by
    rw [bdF]
    by_cases hl : l = []
    · subst hl; simp [U.val_nil]
    · rw [if_neg hl, U.val_cons l hl hb]
      have hn := U.nx_n l hl
      by_cases hw : (nx l).2.2 = true
      · rw [if_pos hw, hw, Bool.true_and]
        exact bdF_none f _ _ (by rw [List.length_drop]; omega) (hb.drop _)
      · rw [if_neg hw]; simp [hw]
theorem bd_none {l : List Int} (hb : Bytes l) : bd l = none ↔ val l = true := bdF_none l.length l 0 (Nat.le_refl _) hb
end Go.Proofs.YtphkdagapoonjaaDoor.Lx
