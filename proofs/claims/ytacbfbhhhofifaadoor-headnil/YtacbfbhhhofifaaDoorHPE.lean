/- head.minor; the small methods. (Stage 19.) -/
import Derived.Test.YtacbfbhhhofifaaDoorHPD
import Derived.WalkLawsBesides
namespace Go.Proofs.YtacbfbhhhofifaaDoor.Hd
open Go.RowKit
open Go.Proofs.YtacbfbhhhofifaaDoor.F (bn bn_length bn_append bn_inj bn_get byte_bd hid bn_extract isEmpty_false isEmpty_true str_eq same_eq)
set_option linter.unusedVariables false

theorem ver_no {v : List Int} (h : v.take 5 ≠ [72, 84, 84, 80, 47]) : ver v = (0, 190) := by unfold ver; rw [if_neg (fun q => h q.2.1)]
theorem ver_of {v : List Int} (h : v.take 5 = [72, 84, 84, 80, 47]) : ver v = if (v.drop 5).length = 3 ∧ (v.drop 5).getD 1 0 = 46 ∧ dig ((v.drop 5).getD 0 0) = true ∧ dig ((v.drop 5).getD 2 0) = true then (if (v.drop 5).getD 0 0 = 49 ∧ (v.drop 5).getD 2 0 ≤ 49 then ((v.drop 5).getD 2 0 - 48, 0) else (0, 192)) else (0, 190) := by
  have e : v = [72, 84, 84, 80, 47] ++ v.drop 5 := by rw [← h, List.take_append_drop]
  obtain ⟨D, hD⟩ : ∃ D, v.drop 5 = D := ⟨_, rfl⟩
  rw [hD] at e ⊢
  subst e
  unfold ver
  have e1 : ([72, 84, 84, 80, 47] ++ D : List Int).length = 8 ↔ D.length = 3 := by simp only [List.length_append, List.length_cons, List.length_nil]; omega
  have e2 : ([72, 84, 84, 80, 47] ++ D : List Int).take 5 = [72, 84, 84, 80, 47] := rfl
  have e3 : ([72, 84, 84, 80, 47] ++ D : List Int).getD 5 0 = D.getD 0 0 := by cases D <;> rfl
  have e4 : ([72, 84, 84, 80, 47] ++ D : List Int).getD 6 0 = D.getD 1 0 := by rcases D with _ | ⟨_, _ | _⟩ <;> rfl
  have e5 : ([72, 84, 84, 80, 47] ++ D : List Int).getD 7 0 = D.getD 2 0 := by rcases D with _ | ⟨_, _ | ⟨_, _ | _⟩⟩ <;> rfl
  rw [e3, e4, e5]
  by_cases hc : D.length = 3 ∧ D.getD 1 0 = 46 ∧ dig (D.getD 0 0) = true ∧ dig (D.getD 2 0) = true
  · rw [if_pos ⟨e1.2 hc.1, e2, hc.2⟩, if_pos hc]
  · rw [if_neg (fun q => hc ⟨e1.1 q.1, q.2.2⟩), if_neg hc]
/-- What minor answers. -/
def MinR (v : List Int) (e : Ending) : Prop := if (ver v).2 = 0 then e = .returned (.int .u8 (ver v).1) else e = .panicked (faultV (ver v).2)
theorem MinR.no {v : List Int} {k : Nat} (h : ver v = (0, k)) (hk : k ≠ 0) {e : Ending} (he : e = .panicked (faultV k)) : MinR v e := by
  unfold MinR; rw [h]; simp only; rw [if_neg hk]; exact he
theorem MinR.yes {v : List Int} {k : Int} (h : ver v = (k, 0)) {e : Ending} (he : e = .returned (.int .u8 k)) : MinR v e := by
  unfold MinR; rw [h]; simp only; rw [if_pos trivial]; exact he
theorem lit10 : (⟨#[49, 46, 48]⟩ : ByteArray).toList = [49, 46, 48] := by first | rfl | decide | kernel_rfl
theorem lit11 : (⟨#[49, 46, 49]⟩ : ByteArray).toList = [49, 46, 49] := by first | rfl | decide | kernel_rfl
theorem three (t : ByteArray) (h : t.size = 3) : bn t = [(bn t)[0]?.getD 0, (bn t)[1]?.getD 0, (bn t)[2]?.getD 0] := by
  have hl : (bn t).length = 3 := by rw [bn_length]; exact h
  match e : bn t, hl with
  | [a, b, c], _ => rfl
set_option maxRecDepth 100000 in
set_option maxHeartbeats 8000000 in
theorem minor_any (s : ByteArray) (hs : s.size ≤ 1000000) (w : World) : Calls Tryd.prog 49 #[.string s] w fun e W' => MinR (bn s) e ∧ W' = w := by
  have HP := hid (pre_any s hs)
  have HD := hid digit_any
  obtain ⟨V, hV⟩ : ∃ V, bn s = V := ⟨_, rfl⟩
  by_cases h5 : (bn s).take 5 = [72, 84, 84, 80, 47]
  · have HV := hid (ver_of h5)
    have hts : (bn s).length ≤ 1000000 := by rw [bn_length]; exact hs
    rw [hV] at HV hts ⊢
    have H5 : Hid ((bn s).take 5 = [72, 84, 84, 80, 47]) := h5
    clear h5
    obtain ⟨D, hD⟩ : ∃ D, (bn s).drop 5 = D := ⟨_, rfl⟩
    have HDD := hid hD
    rw [← hV, hD] at HV
    rw [hV] at HV
    clear hV hD
    by_cases d1 : D = [49, 46, 48]
    · subst d1
      have HE : Hid (ver V = (0, 0)) := HV
      clear HV
      go_enter Tryd.func49, Tryd.ntmps49
      go_wp2_with (go_at_call 58; refine (HP.out _).mono ?_; rintro e w' ⟨⟨t, b, rfl, h1, h2⟩, rfl⟩; obtain rfl : b = true := h1.2 H5.out; have HT := hid (h2 rfl); clear h1 h2; obtain rfl : t = ⟨#[49, 46, 48]⟩ := bn_inj (HT.out.trans HDD.out))
      go_ret
      exact ⟨MinR.yes HE.out rfl, rfl⟩
    · by_cases d2 : D = [49, 46, 49]
      · subst d2
        have HE : Hid (ver V = (1, 0)) := HV
        clear HV
        go_enter Tryd.func49, Tryd.ntmps49
        go_wp2_with (go_at_call 58; refine (HP.out _).mono ?_; rintro e w' ⟨⟨t, b, rfl, h1, h2⟩, rfl⟩; obtain rfl : b = true := h1.2 H5.out; have HT := hid (h2 rfl); clear h1 h2; obtain rfl : t = ⟨#[49, 46, 49]⟩ := bn_inj (HT.out.trans HDD.out))
        go_ret
        exact ⟨MinR.yes HE.out rfl, rfl⟩
      · have N1 := hid d1
        have N2 := hid d2
        by_cases d3 : D.length = 3
        · have H3 := hid d3
          obtain ⟨x0, x1, x2, rfl⟩ : ∃ x0 x1 x2, D = [x0, x1, x2] := by
            match D, d3 with
            | [a, b, c], _ => exact ⟨a, b, c, rfl⟩
          clear d1 d2 d3
          have HE : Hid (ver V = if 46 = x1 ∧ dig x0 = true ∧ dig x2 = true then (0, 192) else (0, 190)) := by
            show _ = _
            have := HV.out
            simp only [List.length_cons, List.length_nil, List.getD_cons_zero, List.getD_cons_succ] at this
            rw [this]
            by_cases q : x1 = 46 ∧ dig x0 = true ∧ dig x2 = true
            · have hno : ¬ (x0 = 49 ∧ x2 ≤ 49) := by
                rintro ⟨rfl, q2⟩
                obtain ⟨rfl, _, q3⟩ := q
                have q4 : 48 ≤ x2 := by unfold dig at q3; exact (of_decide_eq_true q3).1
                rcases (by omega : x2 = 48 ∨ x2 = 49) with rfl | rfl
                · exact N1.out rfl
                · exact N2.out rfl
              rw [if_pos ⟨trivial, q⟩, if_neg hno, if_pos ⟨q.1.symm, q.2⟩]
            · rw [if_neg (fun h => q h.2), if_neg (fun h => q ⟨h.1.symm, h.2⟩)]
          clear HV
          by_cases q1 : x1 = 46
          · have q1b : (x1 == 46) = true := by simpa using q1
            cases Q0 : dig x0 with
            | false =>
              have HN : Hid (ver V = (0, 190)) := by show _ = _; rw [HE.out, if_neg (fun h => by rw [Q0] at h; exact absurd h.2.1 (by decide))]
              clear HE q1
              go_enter Tryd.func49, Tryd.ntmps49
              go_wp2_with (first | (go_at_call 58; refine (HP.out _).mono ?_; rintro e w' ⟨⟨t, b, rfl, h1, h2⟩, rfl⟩; obtain rfl : b = true := h1.2 H5.out; have HT := hid (h2 rfl); clear h1 h2; have n1 : (t.toList == [49, 46, 48]) = false := (by rw [← lit10, str_eq]; exact decide_eq_false (fun e => N1.out (HDD.out.symm.trans (HT.out.symm.trans e)))); have n2 : (t.toList == [49, 46, 49]) = false := (by rw [← lit11, str_eq]; exact decide_eq_false (fun e => N2.out (HDD.out.symm.trans (HT.out.symm.trans e)))); have hl := congrArg List.length (HT.out.trans HDD.out); have h3 : t.size = 3 := (by rw [bn_length] at hl; exact hl); have n3 : ((t.size : Int) == 3) = true := (by rw [h3]; rfl); have z0 : (0 : Int) < t.size := (by omega); have z1 : (1 : Int) < t.size := (by omega); have z2 : (2 : Int) < t.size := (by omega); have g0 := (bn_get t 0 (by omega)).symm; have g1 := (bn_get t 1 (by omega)).symm; have g2 := (bn_get t 2 (by omega)).symm; rw [HT.out, HDD.out] at g0 g1 g2; simp only [List.getElem?_cons_zero, List.getElem?_cons_succ, Option.getD_some] at g0 g1 g2; clear hl) | (go_at_call 59; refine (HD.out _ _).mono ?_; rintro e w9 ⟨rfl, rfl⟩))
              exact ⟨rfl, MinR.no HN.out (by decide) rfl, rfl⟩
            | true =>
              cases Q2 : dig x2 with
              | false =>
                have HN : Hid (ver V = (0, 190)) := by show _ = _; rw [HE.out, if_neg (fun h => by rw [Q2] at h; exact absurd h.2.2 (by decide))]
                clear HE q1
                go_enter Tryd.func49, Tryd.ntmps49
                go_wp2_with (first | (go_at_call 58; refine (HP.out _).mono ?_; rintro e w' ⟨⟨t, b, rfl, h1, h2⟩, rfl⟩; obtain rfl : b = true := h1.2 H5.out; have HT := hid (h2 rfl); clear h1 h2; have n1 : (t.toList == [49, 46, 48]) = false := (by rw [← lit10, str_eq]; exact decide_eq_false (fun e => N1.out (HDD.out.symm.trans (HT.out.symm.trans e)))); have n2 : (t.toList == [49, 46, 49]) = false := (by rw [← lit11, str_eq]; exact decide_eq_false (fun e => N2.out (HDD.out.symm.trans (HT.out.symm.trans e)))); have hl := congrArg List.length (HT.out.trans HDD.out); have h3 : t.size = 3 := (by rw [bn_length] at hl; exact hl); have n3 : ((t.size : Int) == 3) = true := (by rw [h3]; rfl); have z0 : (0 : Int) < t.size := (by omega); have z1 : (1 : Int) < t.size := (by omega); have z2 : (2 : Int) < t.size := (by omega); have g0 := (bn_get t 0 (by omega)).symm; have g1 := (bn_get t 1 (by omega)).symm; have g2 := (bn_get t 2 (by omega)).symm; rw [HT.out, HDD.out] at g0 g1 g2; simp only [List.getElem?_cons_zero, List.getElem?_cons_succ, Option.getD_some] at g0 g1 g2; clear hl) | (go_at_call 59; refine (HD.out _ _).mono ?_; rintro e w9 ⟨rfl, rfl⟩))
                exact ⟨rfl, MinR.no HN.out (by decide) rfl, rfl⟩
              | true =>
                have HN : Hid (ver V = (0, 192)) := by show _ = _; rw [HE.out, if_pos ⟨q1.symm, Q0, Q2⟩]
                clear HE q1
                go_enter Tryd.func49, Tryd.ntmps49
                go_wp2_with (first | (go_at_call 58; refine (HP.out _).mono ?_; rintro e w' ⟨⟨t, b, rfl, h1, h2⟩, rfl⟩; obtain rfl : b = true := h1.2 H5.out; have HT := hid (h2 rfl); clear h1 h2; have n1 : (t.toList == [49, 46, 48]) = false := (by rw [← lit10, str_eq]; exact decide_eq_false (fun e => N1.out (HDD.out.symm.trans (HT.out.symm.trans e)))); have n2 : (t.toList == [49, 46, 49]) = false := (by rw [← lit11, str_eq]; exact decide_eq_false (fun e => N2.out (HDD.out.symm.trans (HT.out.symm.trans e)))); have hl := congrArg List.length (HT.out.trans HDD.out); have h3 : t.size = 3 := (by rw [bn_length] at hl; exact hl); have n3 : ((t.size : Int) == 3) = true := (by rw [h3]; rfl); have z0 : (0 : Int) < t.size := (by omega); have z1 : (1 : Int) < t.size := (by omega); have z2 : (2 : Int) < t.size := (by omega); have g0 := (bn_get t 0 (by omega)).symm; have g1 := (bn_get t 1 (by omega)).symm; have g2 := (bn_get t 2 (by omega)).symm; rw [HT.out, HDD.out] at g0 g1 g2; simp only [List.getElem?_cons_zero, List.getElem?_cons_succ, Option.getD_some] at g0 g1 g2; clear hl) | (go_at_call 59; refine (HD.out _ _).mono ?_; rintro e w9 ⟨rfl, rfl⟩))
                exact ⟨rfl, MinR.no HN.out (by decide) rfl, rfl⟩
          · have q1b : (x1 == 46) = false := by simpa using q1
            have HN : Hid (ver V = (0, 190)) := by show _ = _; rw [HE.out, if_neg (fun h => q1 h.1.symm)]
            clear HE q1
            cases Q0 : dig x0 with
            | false =>
              go_enter Tryd.func49, Tryd.ntmps49
              go_wp2_with (first | (go_at_call 58; refine (HP.out _).mono ?_; rintro e w' ⟨⟨t, b, rfl, h1, h2⟩, rfl⟩; obtain rfl : b = true := h1.2 H5.out; have HT := hid (h2 rfl); clear h1 h2; have n1 : (t.toList == [49, 46, 48]) = false := (by rw [← lit10, str_eq]; exact decide_eq_false (fun e => N1.out (HDD.out.symm.trans (HT.out.symm.trans e)))); have n2 : (t.toList == [49, 46, 49]) = false := (by rw [← lit11, str_eq]; exact decide_eq_false (fun e => N2.out (HDD.out.symm.trans (HT.out.symm.trans e)))); have hl := congrArg List.length (HT.out.trans HDD.out); have h3 : t.size = 3 := (by rw [bn_length] at hl; exact hl); have n3 : ((t.size : Int) == 3) = true := (by rw [h3]; rfl); have z0 : (0 : Int) < t.size := (by omega); have z1 : (1 : Int) < t.size := (by omega); have z2 : (2 : Int) < t.size := (by omega); have g0 := (bn_get t 0 (by omega)).symm; have g1 := (bn_get t 1 (by omega)).symm; have g2 := (bn_get t 2 (by omega)).symm; rw [HT.out, HDD.out] at g0 g1 g2; simp only [List.getElem?_cons_zero, List.getElem?_cons_succ, Option.getD_some] at g0 g1 g2; clear hl) | (go_at_call 59; refine (HD.out _ _).mono ?_; rintro e w9 ⟨rfl, rfl⟩))
              exact ⟨rfl, MinR.no HN.out (by decide) rfl, rfl⟩
            | true =>
              go_enter Tryd.func49, Tryd.ntmps49
              go_wp2_with (first | (go_at_call 58; refine (HP.out _).mono ?_; rintro e w' ⟨⟨t, b, rfl, h1, h2⟩, rfl⟩; obtain rfl : b = true := h1.2 H5.out; have HT := hid (h2 rfl); clear h1 h2; have n1 : (t.toList == [49, 46, 48]) = false := (by rw [← lit10, str_eq]; exact decide_eq_false (fun e => N1.out (HDD.out.symm.trans (HT.out.symm.trans e)))); have n2 : (t.toList == [49, 46, 49]) = false := (by rw [← lit11, str_eq]; exact decide_eq_false (fun e => N2.out (HDD.out.symm.trans (HT.out.symm.trans e)))); have hl := congrArg List.length (HT.out.trans HDD.out); have h3 : t.size = 3 := (by rw [bn_length] at hl; exact hl); have n3 : ((t.size : Int) == 3) = true := (by rw [h3]; rfl); have z0 : (0 : Int) < t.size := (by omega); have z1 : (1 : Int) < t.size := (by omega); have z2 : (2 : Int) < t.size := (by omega); have g0 := (bn_get t 0 (by omega)).symm; have g1 := (bn_get t 1 (by omega)).symm; have g2 := (bn_get t 2 (by omega)).symm; rw [HT.out, HDD.out] at g0 g1 g2; simp only [List.getElem?_cons_zero, List.getElem?_cons_succ, Option.getD_some] at g0 g1 g2; clear hl) | (go_at_call 59; refine (HD.out _ _).mono ?_; rintro e w9 ⟨rfl, rfl⟩))
              exact ⟨rfl, MinR.no HN.out (by decide) rfl, rfl⟩
        · have HE : Hid (ver V = (0, 190)) := by show _ = _; rw [HV.out, if_neg (fun h => d3 h.1)]
          have H3 := hid d3
          clear HV d1 d2 d3
          go_enter Tryd.func49, Tryd.ntmps49
          go_wp2_with (go_at_call 58; refine (HP.out _).mono ?_; rintro e w' ⟨⟨t, b, rfl, h1, h2⟩, rfl⟩; obtain rfl : b = true := h1.2 H5.out; have HT := hid (h2 rfl); clear h1 h2; have n1 : (t.toList == [49, 46, 48]) = false := (by rw [← lit10, str_eq]; exact decide_eq_false (fun e => N1.out (HDD.out.symm.trans (HT.out.symm.trans e)))); have n2 : (t.toList == [49, 46, 49]) = false := (by rw [← lit11, str_eq]; exact decide_eq_false (fun e => N2.out (HDD.out.symm.trans (HT.out.symm.trans e)))); have n3 : ((t.size : Int) == 3) = false := (by have h := congrArg List.length (HT.out.trans HDD.out); rw [bn_length] at h; have := H3.out; simp; omega))
          exact ⟨rfl, MinR.no HE.out (by decide) rfl, rfl⟩
  · have HV := hid (ver_no h5)
    have H5 : Hid (¬ (bn s).take 5 = [72, 84, 84, 80, 47]) := h5
    rw [hV] at HV ⊢
    clear h5 hV
    go_enter Tryd.func49, Tryd.ntmps49
    go_wp2_with (go_at_call 58; refine (HP.out _).mono ?_; rintro e w' ⟨⟨t, b, rfl, h1, h2⟩, rfl⟩; cases b with
      | true => exact absurd (h1.1 rfl) H5.out
      | false => ?_; clear h1 h2)
    exact ⟨rfl, MinR.no HV.out (by decide) rfl, rfl⟩
end Go.Proofs.YtacbfbhhhofifaaDoor.Hd
