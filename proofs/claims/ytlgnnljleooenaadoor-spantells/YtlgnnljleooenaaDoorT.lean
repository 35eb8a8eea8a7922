/- The walk of SpanOne. -/
import Derived.Test.YtlgnnljleooenaaDoorR
namespace Go.Proofs.YtlgnnljleooenaaDoor
open Go.RowKit
set_option linter.unusedVariables false

theorem fits_congr {f g : Int → Bool} (h : Fits f) (e : ∀ x, f x = g x) : Fits g := fun x hx => h x (by rw [e]; exact hx)
theorem chk_nf {f : Int → Bool} {m : List Sp} (h : Nf f m) (hf : Fits f) (hl : m.length ≤ 1024) : chk m = 0 := chk_ok m (by omega) (h.ok hf)
theorem hasA_ok {m : List Sp} (hc : chk m = 0) (x : Int) : hasA m x = hasP m x := by unfold hasA; rw [hc]; simp
theorem add_one_point {f : Int → Bool} {r : Int} (h0 : 0 ≤ r) (h1 : r ≤ 1114111) (hr : f r = false) : (card (fun x => f x || decide (x = r)) : Int) = card f + 1 := by
  have a := cf_or_and f (fun x => decide (x = r)) (List.range 1114112)
  have b : cf (fun x => f x && decide (x = r)) (List.range 1114112) = 0 := cf_none fun i _ => by
    by_cases h : (i : Int) = r
    · rw [h, hr]; rfl
    · simp [h]
  have c := card_interval r (r + 1) h0 (by omega) (by omega)
  have d : cf (fun x => decide (x = r)) (List.range 1114112) = card (fun x => decide (r ≤ x ∧ x < r + 1)) := cf_congr fun i _ => by
    rw [Bool.eq_iff_iff, decide_eq_true_eq, decide_eq_true_eq]; omega
  unfold card at *
  omega

set_option maxRecDepth 100000 in
set_option maxHeartbeats 3200000 in
theorem one_walk (v : Value) (a : List Sp) (r : Int) (w : World) (hT : Tab w) (hv : SpansAt w v a) :
    Calls Tryd.prog 7 #[v, .int .i32 r] w fun e W' => e = .returned (.bool true) ∧ Below w.heap.size w W' := by
  obtain ⟨pv, kv, rfl⟩ : ∃ p k, v = .slice p a.length k := by obtain ⟨p, k, e, _⟩ := hv; exact ⟨p, k, e⟩
  by_cases hlong : 60 < a.length
  · have hl' : (60 : Int) < (a.length : Int) := by omega
    go_enter Tryd.func7, Tryd.ntmps7
    go_wp2_with fail
    refine (works_any w hT).mono ?_
    rintro e w1 ⟨rfl, h1⟩
    go_wp2
    go_ret
    exact ⟨rfl, h1⟩
  have hl' : ¬ (60 : Int) < (a.length : Int) := by omega
  by_cases hca : chk a ≠ 0
  · have HX := hid' hca
    go_enter Tryd.func7, Tryd.ntmps7
    go_wp2_with fail
    refine (check_any _ a (by omega) _ hv).mono ?_
    rintro e w1 ⟨rfl, h1⟩
    go_wp2_with fail
    refine (works_any w1 (hT.below h1 (Nat.le_refl _))).mono ?_
    rintro e w2 ⟨rfl, h2⟩
    go_wp2
    go_ret
    exact ⟨rfl, h1.trans (h2.mono h1.size)⟩
  have HCA : Hid (chk a = 0) := by show _ = _; omega
  clear hca
  by_cases hr : ¬ (0 ≤ r ∧ r ≤ 1114111)
  · go_enter Tryd.func7, Tryd.ntmps7
    go_wp2_with fail
    refine (check_any _ a (by omega) _ hv).mono ?_
    rw [HCA.out]
    rintro e w1 ⟨rfl, h1⟩
    by_cases hr0 : r < 0
    · go_wp2_with fail
      refine (works_any w1 (hT.below h1 (Nat.le_refl _))).mono ?_
      rintro e w2 ⟨rfl, h2⟩
      go_wp2
      go_ret
      exact ⟨rfl, h1.trans (h2.mono h1.size)⟩
    · have hr1 : 1114111 < r := by omega
      go_wp2_with fail
      refine (works_any w1 (hT.below h1 (Nat.le_refl _))).mono ?_
      rintro e w2 ⟨rfl, h2⟩
      go_wp2
      go_ret
      exact ⟨rfl, h1.trans (h2.mono h1.size)⟩
  obtain ⟨hr0, hr1⟩ : 0 ≤ r ∧ r ≤ 1114111 := by omega
  clear hr
  have HC1 : Hid (chk [(r, r)] = 0) := by
    show _ = _
    refine chk_ok _ (by simp) ?_
    simp only [List.all_cons, List.all_nil, Bool.and_true, ok1, decide_eq_true_eq]
    omega
  go_enter Tryd.func7, Tryd.ntmps7
  go_wp2_with fail
  refine (check_any _ a (by omega) _ hv).mono ?_
  rw [HCA.out]
  rintro e w1 ⟨rfl, h1⟩
  have hS1 := SpansAt.new1 w1 r r w1.heap.size rfl
  have hB2 := h1.alloc h1.size (.cells #[.int .i32 r, .int .i32 r] 44)
  go_wp2_with fail
  refine (copied_any _ a (by omega) _ (hv.below hB2 (Nat.le_refl _))).mono ?_
  rintro e w3 ⟨v3, rfl, hown3, hb3⟩
  have hB3 := hB2.trans (hb3.mono hB2.size)
  have hS3 := SpansAt.own rfl hown3
  have hO3 := hS1.below hb3 (Nat.le_refl _)
  clear hown3 hb3 hB2 hS1 h1
  go_wp2_with fail
  refine (copied_any _ [(r, r)] (by simp) _ hO3).mono ?_
  rintro e w4 ⟨v4, rfl, hown4, hb4⟩
  have hB4 := hB3.trans (hb4.mono hB3.size)
  have hS4 := SpansAt.own rfl hown4
  have hA4 := hS3.below hb4 (Nat.le_refl _)
  have hO4 := hO3.below hb4 (Nat.le_refl _)
  clear hown4 hb4 hB3 hS3 hO3
  go_wp2_with fail
  refine (union_any _ _ a [(r, r)] (by omega) (by simp) _ hA4 hS4).mono ?_
  rintro e w5 ⟨⟨p5, k5, more, r5, rfl, hM5, hS5⟩, hb5⟩
  obtain ⟨rfl, hmore, hmorel⟩ := hM5.ok HCA.out HC1.out (by simp; omega)
  have hB5 := hB4.trans (hb5.mono hB4.size)
  have hO5 := hO4.below hb5 (Nat.le_refl _)
  have HMO := hid' hmore
  have hml : more.length ≤ 61 := by simp at hmorel; omega
  have HFIT := hid' (fits_two (c := cOr) rfl (chk_zero HCA.out).2 (chk_zero HC1.out).2)
  have HCM := hid' (chk_nf hmore HFIT.out (by omega))
  clear hb5 hB4 hA4 hS4 hO4 hmore hmorel hM5
  go_wp2_with fail
  refine (copied_any _ more (by omega) _ hS5).mono ?_
  rintro e w6 ⟨v6, rfl, hown6, hb6⟩
  have hB6 := hB5.trans (hb6.mono hB5.size)
  have hS6 := SpansAt.own rfl hown6
  have hM6 := hS5.below hb6 (Nat.le_refl _)
  have hO6 := hO5.below hb6 (Nat.le_refl _)
  clear hown6 hb6 hB5 hS5 hO5
  go_wp2_with fail
  refine (copied_any _ [(r, r)] (by simp) _ hO6).mono ?_
  rintro e w7 ⟨v7, rfl, hown7, hb7⟩
  have hB7 := hB6.trans (hb7.mono hB6.size)
  have hS7 := SpansAt.own rfl hown7
  have hS6' := hS6.below hb7 (Nat.le_refl _)
  have hM7 := hM6.below hb7 (Nat.le_refl _)
  have hO7 := hO6.below hb7 (Nat.le_refl _)
  clear hown7 hb7 hB6 hS6 hO6 hM6
  go_wp2_with fail
  refine (minus_any _ _ more [(r, r)] (by omega) (by simp) _ hS6' hS7).mono ?_
  rintro e w8 ⟨⟨p8, k8, less, r8, rfl, hM8, hS8⟩, hb8⟩
  obtain ⟨rfl, hless, hlessl⟩ := hM8.ok HCM.out HC1.out (by simp; omega)
  have hB8 := hB7.trans (hb8.mono hB7.size)
  have hM8' := hM7.below hb8 (Nat.le_refl _)
  have hO8 := hO7.below hb8 (Nat.le_refl _)
  have HLE := hid' hless
  have hll : less.length ≤ 62 := by simp at hlessl; omega
  clear hb8 hB7 hS6' hS7 hO7 hless hlessl hM8 hM7
  go_wp2_with fail
  refine (copied_any _ a (by omega) _ (hv.below hB8 (Nat.le_refl _))).mono ?_
  rintro e w9 ⟨v9, rfl, hown9, hb9⟩
  have hB9 := hB8.trans (hb9.mono hB8.size)
  have hS9 := SpansAt.own rfl hown9
  have hM9 := hM8'.below hb9 (Nat.le_refl _)
  have hL9 := hS8.below hb9 (Nat.le_refl _)
  have hO9 := hO8.below hb9 (Nat.le_refl _)
  clear hown9 hb9 hB8 hS8 hO8 hM8'
  go_wp2_with fail
  refine (norm_any _ a (by omega) _ hS9).mono ?_
  rintro e w10 ⟨⟨p10, k10, norm, r10, rfl, hN, hS10⟩, hb10⟩
  rcases hN with ⟨hc, _⟩ | ⟨-, hnf, hnl, rfl⟩
  · exact absurd HCA.out hc
  have hB10 := hB9.trans (hb10.mono hB9.size)
  have hM10 := hM9.below hb10 (Nat.le_refl _)
  have hL10 := hL9.below hb10 (Nat.le_refl _)
  have hO10 := hO9.below hb10 (Nat.le_refl _)
  have HNF := hid' hnf
  clear hb10 hB9 hS9 hM9 hL9 hO9 hnf
  go_wp2_with fail
  refine (copied_any _ a (by omega) _ (hv.below hB10 (Nat.le_refl _))).mono ?_
  rintro e w11 ⟨v11, rfl, hown11, hb11⟩
  have hB11 := hB10.trans (hb11.mono hB10.size)
  have hS11 := SpansAt.own rfl hown11
  have hM11 := hM10.below hb11 (Nat.le_refl _)
  have hL11 := hL10.below hb11 (Nat.le_refl _)
  have hO11 := hO10.below hb11 (Nat.le_refl _)
  have hN11 := hS10.below hb11 (Nat.le_refl _)
  clear hown11 hb11 hB10 hM10 hL10 hO10 hS10
  go_wp2_with fail
  refine (copied_any _ [(r, r)] (by simp) _ hO11).mono ?_
  rintro e w12 ⟨v12, rfl, hown12, hb12⟩
  have hB12 := hB11.trans (hb12.mono hB11.size)
  have hS12 := SpansAt.own rfl hown12
  have hA12 := hS11.below hb12 (Nat.le_refl _)
  have hM12 := hM11.below hb12 (Nat.le_refl _)
  have hL12 := hL11.below hb12 (Nat.le_refl _)
  have hN12 := hN11.below hb12 (Nat.le_refl _)
  clear hown12 hb12 hB11 hS11 hM11 hL11 hO11 hN11
  go_wp2_with fail
  refine (minus_any _ _ a [(r, r)] (by omega) (by simp) _ hA12 hS12).mono ?_
  rintro e w13 ⟨⟨p13, k13, was, r13, rfl, hM13, hS13⟩, hb13⟩
  obtain ⟨rfl, hwas, hwasl⟩ := hM13.ok HCA.out HC1.out (by simp; omega)
  have hB13 := hB12.trans (hb13.mono hB12.size)
  have hM13' := hM12.below hb13 (Nat.le_refl _)
  have hL13 := hL12.below hb13 (Nat.le_refl _)
  have hN13 := hN12.below hb13 (Nat.le_refl _)
  have HWA := hid' hwas
  have hwl : was.length ≤ 62 := by simp at hwasl; omega
  clear hb13 hB12 hA12 hS12 hM12 hL12 hN12 hwas hwasl hM13
  -- plain facts
  have HH1 : Hid (hasA more r = true) := by
    show _ = _
    rw [hasA_ok HCM.out, HMO.out.has, one_has]; simp [cOr]
  have hfl : ∀ x, cLess (hasP more x) (hasP [(r, r)] x) = cLess (hasP a x) (hasP [(r, r)] x) := fun x => by
    rw [HMO.out.has]
    cases hasP a x <;> cases hasP [(r, r)] x <;> rfl
  have HEQ : Hid (less = was) := (HLE.out.congr hfl).unique HWA.out
  have HFL := hid' (fits_congr (fits_two (c := cLess) rfl (chk_zero HCA.out).2 (chk_zero HC1.out).2) (fun x => (hfl x).symm))
  have HCL := hid' (chk_nf HLE.out HFL.out (by omega))
  have HH2 : Hid (hasA less r = false) := by
    show _ = _
    rw [hasA_ok HCL.out, HLE.out.has, one_has]; simp [cLess]
  have HNL := hid' hnl
  clear hfl hnl
  go_wp2_with fail
  refine (has_any _ more r (by omega) _ hM13').mono ?_
  rw [HH1.out]
  rintro e w14 ⟨rfl, hb14⟩
  have hB14 := hB13.trans (hb14.mono hB13.size)
  have hM14 := hM13'.below hb14 (Nat.le_refl _)
  have hL14 := hL13.below hb14 (Nat.le_refl _)
  have hN14 := hN13.below hb14 (Nat.le_refl _)
  have hW14 := hS13.below hb14 (Nat.le_refl _)
  clear hb14 hB13 hM13' hL13 hN13 hS13
  go_wp2_with fail
  refine (has_any _ less r (by omega) _ hL14).mono ?_
  rw [HH2.out]
  rintro e w15 ⟨rfl, hb15⟩
  have hB15 := hB14.trans (hb15.mono hB14.size)
  have hM15 := hM14.below hb15 (Nat.le_refl _)
  have hL15 := hL14.below hb15 (Nat.le_refl _)
  have hN15 := hN14.below hb15 (Nat.le_refl _)
  have hW15 := hW14.below hb15 (Nat.le_refl _)
  clear hb15 hB14 hM14 hL14 hN14 hW14
  go_wp2_with fail
  refine (same_any _ _ less was (by omega) (by omega) _ hL15 hW15).mono ?_
  rw [decide_eq_true (HEQ.out)]
  rintro e w16 ⟨rfl, n16, rfl⟩
  have hbq : Below w15.heap.size w15 (w15.drewN n16) := below_drewN (Below.refl _ _) n16
  have hB16 := hB15.trans (hbq.mono hB15.size)
  have hM16 := hM15.below hbq (Nat.le_refl _)
  have hL16 := hL15.below hbq (Nat.le_refl _)
  have hN16 := hN15.below hbq (Nat.le_refl _)
  clear hbq hB15 hM15 hL15 hN15 hW15
  generalize w15.drewN n16 = w17 at hB16 hM16 hL16 hN16 ⊢
  go_wp2_with fail
  refine (has_any _ a r (by omega) _ (hv.below hB16 (Nat.le_refl _))).mono ?_
  rintro e w18 ⟨rfl, hb18⟩
  have hB18 := hB16.trans (hb18.mono hB16.size)
  have hM18 := hM16.below hb18 (Nat.le_refl _)
  have hL18 := hL16.below hb18 (Nat.le_refl _)
  have hN18 := hN16.below hb18 (Nat.le_refl _)
  clear hb18 hB16 hM16 hL16 hN16
  have hAr := hasA_ok HCA.out r
  cases hin : hasP a r with
  | true =>
    rw [hin] at hAr
    rw [hAr]
    have HS : Hid (more = norm) := (HMO.out.congr fun x => by
      rw [one_has]
      by_cases hx : x = r
      · subst hx; rw [hin]; rfl
      · simp [cOr, hx]).unique HNF.out
    clear hin hAr
    go_wp2_with fail
    refine (same_any _ _ more norm (by omega) (by have := HNL.out; omega) _ hM18 hN18).mono ?_
    rw [decide_eq_true (HS.out)]
    rintro e w19 ⟨rfl, n19, rfl⟩
    have hB19 := below_drewN hB18 n19
    generalize w18.drewN n19 = w20 at hB19 ⊢
    go_wp2_with fail
    refine (works_any w20 (hT.below hB19 (Nat.le_refl _))).mono ?_
    rintro e w21 ⟨rfl, h21⟩
    go_wp2
    go_ret
    exact ⟨rfl, hB19.trans (h21.mono hB19.size)⟩
  | false =>
    rw [hin] at hAr
    rw [hAr]
    have HS : Hid (less = norm) := (HLE.out.congr fun x => by
      rw [HMO.out.has, one_has]
      by_cases hx : x = r
      · subst hx; rw [hin]; simp [cLess]
      · simp [cOr, cLess, hx]).unique HNF.out
    have HCC : Hid ((card (fun x => cOr (hasP a x) (hasP [(r, r)] x)) : Int) = card (hasP a) + 1) := by
      show _ = _
      rw [← add_one_point hr0 hr1 hin]
      have : (fun x => cOr (hasP a x) (hasP [(r, r)] x)) = fun x => hasP a x || decide (x = r) := funext fun x => by rw [one_has]; rfl
      rw [this]
    clear hin hAr
    go_wp2_with fail
    refine (count_any _ more (by omega) _ hM18).mono ?_
    rintro e w19 ⟨⟨n1, rfl, hR1⟩, hb19⟩
    have HN1 := hid' (hR1.of_nf (a := a) HMO.out HFIT.out (by omega))
    have hB19 := hB18.trans (hb19.mono hB18.size)
    have hL19 := hL18.below hb19 (Nat.le_refl _)
    have hN19 := hN18.below hb19 (Nat.le_refl _)
    clear hb19 hB18 hM18 hL18 hN18 hR1
    go_wp2_with fail
    refine (count_any _ a (by omega) _ (hv.below hB19 (Nat.le_refl _))).mono ?_
    rintro e w20 ⟨⟨n2, rfl, hR2⟩, hb20⟩
    obtain hn2 := hR2.of_ok HCA.out
    have hB20 := hB19.trans (hb20.mono hB19.size)
    have hL20 := hL19.below hb20 (Nat.le_refl _)
    have hN20 := hN19.below hb20 (Nat.le_refl _)
    clear hb20 hB19 hL19 hN19 hR2
    have hcb : card (hasP a) ≤ 1114112 := by
      have := List.countP_le_length (p := fun i : Nat => hasP a (i : Int)) (l := List.range 1114112)
      rw [List.length_range] at this
      exact this
    have hn12 : n1 = n2 + 1 := by rw [HN1.out, hn2]; exact HCC.out
    have hn2b : 0 ≤ n2 ∧ n2 ≤ 1114112 := by omega
    clear HN1 hn2 hcb
    subst hn12
    go_wp2_with fail
    refine (same_any _ _ less norm (by omega) (by have := HNL.out; omega) _ hL20 hN20).mono ?_
    rw [decide_eq_true (HS.out)]
    rintro e w21 ⟨rfl, n21, rfl⟩
    have hB21 := below_drewN hB20 n21
    generalize w20.drewN n21 = w22 at hB21 ⊢
    go_wp2_with fail
    refine (works_any w22 (hT.below hB21 (Nat.le_refl _))).mono ?_
    rintro e w23 ⟨rfl, h23⟩
    go_wp2
    go_ret
    exact ⟨rfl, hB21.trans (h23.mono hB21.size)⟩
end Go.Proofs.YtlgnnljleooenaaDoor
