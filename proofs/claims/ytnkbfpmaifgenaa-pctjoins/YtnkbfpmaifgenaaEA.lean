/- Plain: what is told by percent signs. -/
import Derived.Test.YtnkbfpmaifgenaaUT
import Derived.Test.YtnkbfpmaifgenaaUG
namespace Go.Proofs.Ytnkbfpmaifgenaa.E
open Go.RowKit
set_option linter.unusedVariables false

theorem hid {p : Prop} (h : p) : Hid p := h
/-! ### The sets -/
def ctl (r : Int) : Bool := decide (r < 32) || decide (126 < r)
/-- The signs of a set that are no controls. -/
def sgn : Nat → List Int
  | 1 => [32, 34, 60, 62, 96]
  | 2 => [32, 34, 35, 60, 62]
  | 3 => [32, 34, 35, 60, 62, 39]
  | 4 => [32, 34, 35, 60, 62, 63, 94, 96, 123, 125]
  | 5 => [32, 34, 35, 60, 62, 63, 94, 96, 123, 125, 47, 58, 59, 61, 64, 91, 92, 93, 124]
  | 6 => [32, 34, 35, 60, 62, 63, 94, 96, 123, 125, 47, 58, 59, 61, 64, 91, 92, 93, 124, 36, 37, 38, 43, 44]
  | _ => []
def inS (r : Int) (k : Nat) : Bool := decide (k ≤ 6) && (ctl r || (sgn k).contains r)
theorem inS_over {r : Int} {k : Nat} (h : 6 < k) : inS r k = false := by unfold inS; rw [decide_eq_false (by omega)]; rfl
theorem inS_no {r : Int} {k : Nat} (hk : k ≤ 6) (h : inS r k = false) : 32 ≤ r ∧ r ≤ 126 := by
  unfold inS ctl at h
  rw [decide_eq_true hk] at h
  simp at h
  omega
/-! ### Bytes told by percent signs -/
def dg (n : Int) : Int := if n < 10 then 48 + n else 55 + n
def pe (b : Int) : List Int := [37, dg (b / 16), dg (b % 16)]
/-- What one code point is told as. -/
def tok (k : Nat) (c : Int) : List Int := if inS c k = true then (U.enc c).flatMap pe else U.enc c
def en (k : Nat) (l : List Int) : List Int := l.flatMap (tok k)
theorem en_append (k : Nat) (a b : List Int) : en k (a ++ b) = en k a ++ en k b := List.flatMap_append
theorem en_cons (k : Nat) (c : Int) (l : List Int) : en k (c :: l) = tok k c ++ en k l := List.flatMap_cons
theorem en_snoc (k : Nat) (l : List Int) (c : Int) : en k (l ++ [c]) = en k l ++ tok k c := by rw [en_append]; simp [en]
theorem pes_len : ∀ l : List Int, (l.flatMap pe).length = 3 * l.length
  | [] => rfl
  | b :: l => by rw [List.flatMap_cons, List.length_append, pes_len l, List.length_cons]; show 3 + _ = _; omega
theorem tok_len (k : Nat) (c : Int) : (tok k c).length ≤ 12 := by
  have := U.enc_len c
  unfold tok
  split
  · rw [pes_len]; omega
  · omega
theorem en_len (k : Nat) : ∀ l : List Int, (en k l).length ≤ 12 * l.length
  | [] => Nat.le_refl _
  | c :: l => by
    have h1 := tok_len k c
    have h2 := en_len k l
    rw [en_cons, List.length_append, List.length_cons]
    omega
/-! ### What percent signs tell -/
def hx (c : Int) : Int := if 48 ≤ c ∧ c ≤ 57 then c - 48 else if 97 ≤ c ∧ c ≤ 102 then c - 87 else if 65 ≤ c ∧ c ≤ 70 then c - 55 else -1
def de : List Int → List Int
  | [] => []
  | [a] => [a]
  | [a, b] => [a, b]
  | c :: a :: b :: t => if c = 37 ∧ 0 ≤ hx a ∧ 0 ≤ hx b then (16 * hx a + hx b) :: de t else c :: de (a :: b :: t)
theorem de_yes {a b : Int} {t : List Int} (ha : 0 ≤ hx a) (hb : 0 ≤ hx b) : de (37 :: a :: b :: t) = (16 * hx a + hx b) :: de t := by rw [de, if_pos ⟨rfl, ha, hb⟩]
theorem de_no {c : Int} {t : List Int} (h : ¬ (c = 37 ∧ 2 ≤ t.length ∧ 0 ≤ hx (t[0]?.getD 0) ∧ 0 ≤ hx (t[1]?.getD 0))) : de (c :: t) = c :: de t := by
  match t, h with
  | [], _ => rfl
  | [a], _ => rfl
  | a :: b :: t, h =>
    rw [de, if_neg (fun hh => h ⟨hh.1, by simp, hh.2.1, hh.2.2⟩)]
theorem de_other {c : Int} {t : List Int} (h : c ≠ 37) : de (c :: t) = c :: de t := de_no (fun hh => h hh.1)
theorem hx_bd (c : Int) : -1 ≤ hx c ∧ hx c ≤ 15 := by unfold hx; (repeat' split) <;> omega
theorem hx_dg {n : Int} (h0 : 0 ≤ n) (h1 : n ≤ 15) : hx (dg n) = n := by unfold hx dg; (repeat' split) <;> omega
theorem de_pe {b : Int} (h0 : 0 ≤ b) (h1 : b ≤ 255) (t : List Int) : de (pe b ++ t) = b :: de t := by
  show de (37 :: dg (b / 16) :: dg (b % 16) :: t) = _
  rw [de_yes (by rw [hx_dg (by omega) (by omega)]; omega) (by rw [hx_dg (by omega) (by omega)]; omega), hx_dg (by omega) (by omega), hx_dg (by omega) (by omega)]
  congr 1
  omega
theorem de_pes : ∀ (l : List Int), U.Bytes l → ∀ t, de (l.flatMap pe ++ t) = l ++ de t
  | [], _, t => rfl
  | b :: l, h, t => by
    have hb := h b (by simp)
    rw [List.flatMap_cons, List.append_assoc, de_pe hb.1 hb.2, de_pes l (fun x hx => h x (by simp [hx]))]; rfl
theorem de_len : ∀ (n : Nat) (l : List Int), l.length ≤ n → (de l).length ≤ l.length
  | _, [], _ => Nat.le_refl _
  | _, [a], _ => Nat.le_refl _
  | _, [a, b], _ => Nat.le_refl _
  | 0, c :: a :: b :: t, h => by simp at h
  | n + 1, c :: a :: b :: t, h => by
    rw [de]
    split
    · have := de_len n t (by simp at h; omega)
      simp; omega
    · have := de_len n (a :: b :: t) (by simp at h ⊢; omega)
      simp at this ⊢; omega
theorem enc_low {c : Int} (h : c < 128) : U.enc c = [c] := by unfold U.enc; rw [if_pos h]
theorem scal_bd {c : Int} (h : U.scal c = true) : 0 ≤ c ∧ c ≤ 1114111 := by
  unfold U.scal at h
  have := of_decide_eq_true h
  omega
theorem inS_37 : ∀ k : Fin 7, inS 37 k.val = decide (k.val = 6) := by decide
/-- What was told by percent signs, all of them told, is what it was. -/
theorem de_en : ∀ (l : List Int), (∀ c ∈ l, U.scal c = true) → de (en 6 l) = U.encs l
  | [], _ => rfl
  | c :: l, h => by
    have hc := scal_bd (h c (by simp))
    have ih := de_en l (fun x hx => h x (by simp [hx]))
    have e : U.encs (c :: l) = U.enc c ++ U.encs l := List.flatMap_cons
    rw [en_cons, e]
    unfold tok
    split
    · rw [de_pes _ (U.enc_bytes c hc.1 hc.2), ih]
    · rename_i hi
      have hi' : inS c 6 = false := by simpa using hi
      have hb := inS_no (by decide) hi'
      have hne : c ≠ 37 := fun e => by rw [e] at hi'; exact absurd hi' (by decide)
      rw [enc_low (by omega)]
      show de (c :: en 6 l) = c :: U.encs l
      rw [de_other hne, ih]
/-! ### The signs of what was told -/
theorem dg_free : ∀ k : Fin 7, ∀ n : Fin 16, inS (dg n.val) k.val = false := by decide +kernel
theorem dg_bd {n : Int} (h0 : 0 ≤ n) (h1 : n ≤ 15) : 48 ≤ dg n ∧ dg n ≤ 70 := by unfold dg; split <;> omega
/-- Each byte of what was told is a sign, and in the set only if it is a percent sign. -/
theorem en_signs {k : Nat} (hk : k ≤ 6) {l : List Int} (h : ∀ c ∈ l, U.scal c = true) : ∀ y ∈ en k l, 32 ≤ y ∧ y ≤ 126 ∧ (inS y k = true → y = 37) := by
  intro y hy
  obtain ⟨c, hc, hyc⟩ := List.mem_flatMap.1 hy
  have hb := scal_bd (h c hc)
  unfold tok at hyc
  split at hyc
  · obtain ⟨b, hbm, hyb⟩ := List.mem_flatMap.1 hyc
    have hbb := U.enc_bytes c hb.1 hb.2 b hbm
    have key : ∀ n : Int, 0 ≤ n → n ≤ 15 → 32 ≤ dg n ∧ dg n ≤ 126 ∧ (inS (dg n) k = true → dg n = 37) := fun n h0 h1 => by
      have h2 := dg_bd h0 h1
      have h3 := dg_free ⟨k, by omega⟩ ⟨n.toNat, by omega⟩
      simp only at h3
      rw [show ((n.toNat : Nat) : Int) = n by omega] at h3
      exact ⟨by omega, by omega, fun hh => by rw [h3] at hh; cases hh⟩
    have hyb' : y = 37 ∨ y = dg (b / 16) ∨ y = dg (b % 16) := by simpa [pe] using hyb
    rcases hyb' with rfl | rfl | rfl
    · exact ⟨by omega, by omega, fun _ => rfl⟩
    · exact key _ (by omega) (by omega)
    · exact key _ (by omega) (by omega)
  · rename_i hi
    have hi' : inS c k = false := by simpa using hi
    have h2 := inS_no hk hi'
    rw [enc_low (by omega)] at hyc
    simp at hyc
    subst hyc
    exact ⟨h2.1, h2.2, fun hh => by rw [hi'] at hh; cases hh⟩
theorem encs_plain : ∀ {l : List Int}, (∀ c ∈ l, c < 128) → U.encs l = l
  | [], _ => rfl
  | c :: l, h => by
    have e : U.encs (c :: l) = U.enc c ++ U.encs l := List.flatMap_cons
    rw [e, enc_low (h c (by simp)), encs_plain (fun x hx => h x (by simp [hx]))]; rfl
theorem encs_scal {l : List Int} (h : ∀ c ∈ l, U.scal c = true) : U.dec (U.encs l) = l := (U.back l (List.all_eq_true.2 h)).1
theorem dec_plain {l : List Int} (h : ∀ c ∈ l, 0 ≤ c ∧ c < 128) : U.dec l = l := by
  have e := encs_plain (l := l) (fun c hc => (h c hc).2)
  have s : ∀ c ∈ l, U.scal c = true := fun c hc => by
    have := h c hc
    unfold U.scal
    simp; omega
  have := encs_scal s
  rwa [e] at this
theorem en_free {k : Nat} : ∀ {l : List Int}, (∀ c ∈ l, c < 128 ∧ inS c k = false) → en k l = l
  | [], _ => rfl
  | c :: l, h => by
    have hc := h c (by simp)
    rw [en_cons, en_free (fun x hx => h x (by simp [hx]))]
    unfold tok
    rw [hc.2, if_neg (by decide), enc_low hc.1]; rfl
/-- Told once more by a set that has no percent sign, it stays. -/
theorem en_twice {k : Nat} (hk : k ≤ 5) {l : List Int} (h : ∀ c ∈ l, U.scal c = true) : en k (U.dec (en k l)) = en k l := by
  have hs := en_signs (k := k) (by omega) h
  rw [dec_plain (fun c hc => by have := hs c hc; omega)]
  exact en_free (fun c hc => by
    have := hs c hc
    refine ⟨by omega, ?_⟩
    cases hi : inS c k with
    | false => rfl
    | true =>
      have e := this.2.2 hi
      rw [e] at hi
      have := inS_37 ⟨k, by omega⟩
      simp only at this
      rw [this] at hi
      exact absurd (of_decide_eq_true hi) (by omega))
/-- Whether a greater set tells all that a less one does. -/
def less (a b : Nat) : Bool := (decide (a ≤ b) && decide (a ≠ 3) && decide (a ≠ 1)) || decide (a = b)
theorem less_up : ∀ a b : Fin 7, less a.val b.val = true → ∀ r : Fin 130, inS r.val a.val = true → inS r.val b.val = true := by decide +kernel
theorem dec_scs (s : ByteArray) : ∀ c ∈ U.dec (U.bn s), U.scal c = true := List.all_eq_true.1 (U.dec_scal (U.bn s).length (U.bn s) (Nat.le_refl _) (U.bn_bytes s))
theorem en_bytes {k : Nat} {l : List Int} (h : ∀ c ∈ l, U.scal c = true) : U.Bytes (en k l) := by
  by_cases hk : k ≤ 6
  · intro y hy
    have := en_signs hk h y hy
    omega
  · intro y hy
    obtain ⟨c, hc, hyc⟩ := List.mem_flatMap.1 hy
    have hb := scal_bd (h c hc)
    unfold tok at hyc
    rw [inS_over (by omega), if_neg (by decide)] at hyc
    exact U.enc_bytes c hb.1 hb.2 y hyc
end Go.Proofs.Ytnkbfpmaifgenaa.E
