/- Texts of one layer, one behind the other: LL. -/
import Derived.Test.YtdncaehajhmcoaaGreatZL3
/- The document's may and Joins. -/
namespace Go.Proofs.YtdncaehajhmcoaaGreat.L
open Go.RowKit
set_option linter.unusedVariables false

/-- The joining type of the first that is not T, from a place on. -/
def fj (L : List Int) (st a : Int) : Int := (((rem L st a).find? pJ).map joi).getD 0
theorem fj_nb (L : List Int) (i st : Int) : nb L i st = fj L st (i + st) := rfl
theorem fj_step (L : List Int) (st a : Int) (hst : st = 1 ∨ st = -1) (h0 : 0 ≤ a) (h1 : a < L.length) (h : joi (L[a.toNat]?.getD 0) = 4) : fj L st a = fj L st (a + st) := by
  unfold fj
  rw [rem_at L st a hst h0 h1, List.find?_cons_of_neg (by simp [pJ, h])]
theorem fj_hit (L : List Int) (st a : Int) (hst : st = 1 ∨ st = -1) (h0 : 0 ≤ a) (h1 : a < L.length) (h : ¬ joi (L[a.toNat]?.getD 0) = 4) : fj L st a = joi (L[a.toNat]?.getD 0) := by
  unfold fj
  rw [rem_at L st a hst h0 h1, List.find?_cons_of_pos (by simp [pJ, h])]; rfl
theorem fj_out (L : List Int) (st a : Int) (h : (st = 1 ∧ (L.length : Int) ≤ a) ∨ (st = -1 ∧ a < 0)) : fj L st a = 0 := by
  unfold fj
  rw [rem_out L st a h]; rfl

set_option maxRecDepth 100000 in
set_option maxHeartbeats 8000000 in
theorem rmay_any (v : Value) (L : List Int) (i : Nat) (w : World) (hi : i < L.length) (hlen : L.length ≤ 100000) (hv : U.IntsAt w v L) :
    Calls Tryz.prog 149 #[v, .int .i64 i] w fun e W' => e = .returned (.bool (may L i)) ∧ Below w.heap.size w W' := by
  obtain ⟨a, c, rfl, hf⟩ := ints_form hv
  obtain ⟨b, off, rfl, hc⟩ := hf (by omega)
  obtain ⟨n, hn⟩ : ∃ n, L.length = n := ⟨_, rfl⟩
  rw [hn] at hc hi hlen hf ⊢
  have HN := hid hn
  have HC := hid hc
  have HF := hid hf
  have HM : Hid (may L i = ((decide (0 < i) && decide (cls (L[i - 1]?.getD 0) = 9)) || mayB (L[i]?.getD 0) (nb L i (-1)) (nb L i 1))) := rfl
  obtain ⟨R, hR⟩ : ∃ R, may L i = R := ⟨_, rfl⟩
  rw [hR] at HM ⊢
  have HX : Hid (∀ w1, Below w.heap.size w w1 → ∃ x, x = L[i]?.getD 0 ∧ w1.cell? ⟨b, off + i, none⟩ = some (.int .i32 x)) := fun w1 B1 =>
    ⟨_, rfl, (B1.cell (p := ⟨b, off + i, none⟩) (U.lt_of_cell (HC.out i hi))).trans (HC.out i hi)⟩
  clear hv hf hc hn hR
  by_cases h0 : 0 < i
  · obtain ⟨k, hk1⟩ : ∃ k, i = k + 1 := ⟨i - 1, by omega⟩
    have ek : (i : Int) - 1 = (k : Int) := by omega
    have h0z : (0 : Int) < (i : Int) := by omega
    have hk : k < n := by omega
    have hck := HC.out k hk
    obtain ⟨x0, x1, x3, x4, x5, x6, hfc⟩ := rfind_c (L[k]?.getD 0)
    have hflc := fld8 x0 x1 (sts (L[k]?.getD 0)) x3 x4 x5 x6 (bid (L[k]?.getD 0)) (cls (L[k]?.getD 0)) (joi (L[k]?.getD 0)) (mrk (L[k]?.getD 0))
    obtain ⟨y2, h2⟩ : ∃ y, sts (L[k]?.getD 0) = y := ⟨_, rfl⟩
    obtain ⟨y7, h7⟩ : ∃ y, bid (L[k]?.getD 0) = y := ⟨_, rfl⟩
    obtain ⟨y8, h8⟩ : ∃ y, cls (L[k]?.getD 0) = y := ⟨_, rfl⟩
    obtain ⟨y9, h9⟩ : ∃ y, mrk (L[k]?.getD 0) = y := ⟨_, rfl⟩
    obtain ⟨y10, h10⟩ : ∃ y, joi (L[k]?.getD 0) = y := ⟨_, rfl⟩
    rw [h2, h7, h8, h9, h10] at hfc hflc
    have HZM : Hid (R = (decide (y8 = 9) || mayB (L[i]?.getD 0) (nb L i (-1)) (nb L i 1))) := by
      show _ = _
      rw [HM.out, show i - 1 = k by omega, h8, decide_eq_true h0, Bool.true_and]
    obtain ⟨y, hy⟩ : ∃ y, L[k]?.getD 0 = y := ⟨_, rfl⟩
    rw [hy] at hck hfc
    have HFC := hid hfc
    clear hy HM h2 h7 h8 h9 h10 hk1 h0 hfc
    go_enter Tryz.func149, Tryz.ntmps149
    by_cases hz9 : y8 = 9
    · subst hz9
      go_wp2_with (go_at_call 40; refine (HFC.out _).mono ?_; rintro e w1 ⟨rfl, B1⟩)
      go_ret
      refine ⟨?_, B1⟩
      rw [HZM.out]; simp
    · have hz1 : (y8 == 9) = false := by simpa using hz9
      rw [decide_eq_false hz9, Bool.false_or] at HZM
      go_upto_if 20 with (go_at_call 40; refine (HFC.out _).mono ?_; rintro e w1 ⟨rfl, B1⟩)
      have HB1 := hid B1
      clear B1 hck hz9 hz1
      obtain ⟨x, hx, hcx⟩ := HX.out _ HB1.out
      have HMM : Hid (R = mayB x (fj L (-1) ((i : Int) + -1)) (fj L 1 ((i : Int) + 1))) := by show _ = _; rw [HZM.out, hx]; rfl
      clear hx HZM
      by_cases hx1 : x = 8204
      · subst hx1
        go_wp2_with fail
        go_loopw [5] (fun v5 wr => ∃ p : Int, -1 ≤ p ∧ p < n ∧ v5 = .int .i64 p ∧ Hid (fj L (-1) ((i : Int) + -1) = fj L (-1) p) ∧ Hid (Below w.heap.size w wr)) (fun v5 _ => (intOf v5 + 1).toNat)
        case atStart => exact ⟨(i : Int) - 1, by omega, by omega, by first | rfl | go_num, by show _ = _; rw [Int.sub_eq_add_neg], HB1⟩
        case round =>
          clear HB1 hcx
          obtain ⟨p, hp0, hp1, rfl, HFp, HB⟩ := hrel
          have hstop : ∀ (P : Int), P = fj L (-1) ((i : Int) + -1) → R = mayB 8204 P (fj L 1 ((i : Int) + 1)) := fun P e => by rw [HMM.out, e]
          have HST := hid hstop
          clear hstop
          by_cases hin : 0 ≤ p
          · obtain ⟨k, rfl⟩ : ∃ k : Nat, p = k := ⟨p.toNat, by omega⟩
            have hk : k < n := by omega
            obtain ⟨b1, off1, hbe, hck⟩ := cell_at HF.out HB.out k hk
            cases hbe
            have HStep := hid (fj_step L (-1) k (.inr rfl) hin (by rw [HN.out]; exact hp1))
            have HHit := hid (fj_hit L (-1) k (.inr rfl) hin (by rw [HN.out]; exact hp1))
            rw [Int.toNat_natCast] at HStep HHit
            obtain ⟨x0, x1, x3, x4, x5, x6, hfa⟩ := rfind_c (L[k]?.getD 0)
            have hfla := fld10 x0 x1 (sts (L[k]?.getD 0)) x3 x4 x5 x6 (bid (L[k]?.getD 0)) (cls (L[k]?.getD 0)) (joi (L[k]?.getD 0)) (mrk (L[k]?.getD 0))
            obtain ⟨y2, h2⟩ : ∃ y, sts (L[k]?.getD 0) = y := ⟨_, rfl⟩
            obtain ⟨y7, h7⟩ : ∃ y, bid (L[k]?.getD 0) = y := ⟨_, rfl⟩
            obtain ⟨y8, h8⟩ : ∃ y, cls (L[k]?.getD 0) = y := ⟨_, rfl⟩
            obtain ⟨y9, h9⟩ : ∃ y, mrk (L[k]?.getD 0) = y := ⟨_, rfl⟩
            obtain ⟨y10, h10⟩ : ∃ y, joi (L[k]?.getD 0) = y := ⟨_, rfl⟩
            rw [h2, h7, h8, h9, h10] at hfa hfla
            rw [h10] at HStep HHit
            obtain ⟨q, hq⟩ : ∃ q, L[k]?.getD 0 = q := ⟨_, rfl⟩
            rw [hq] at hck hfa
            have HFA := hid hfa
            have HQ1 := hid hq
            clear hfa h2 h7 h8 h9 h10 hq
            by_cases hj : y10 = 4
            · subst hj
              have HNx := hid (HStep.out rfl)
              go_wp2_with (go_at_call 40; refine (HFA.out _).mono ?_; rintro e w2 ⟨rfl, B2⟩)
              go_roundw
              case rel => exact ⟨(k : Int) - 1, by omega, by omega, by first | rfl | go_num, by show _ = _; rw [HFp.out, HNx.out]; rfl, HB.out.trans (B2.mono HB.out.size)⟩
              case measure => first | (simp [intOf]; done) | (simp [intOf]; omega)
            · have hjb : (y10 == 4) = false := by simpa using hj
              have HP := hid (HHit.out hj)
              go_upto_if 38 with (go_at_call 40; refine (HFA.out _).mono ?_; rintro e w2 ⟨rfl, B2⟩)
              have HB2 := hid (HB.out.trans (B2.mono HB.out.size))
              have HR2 := hid (HST.out y10 (by rw [HFp.out, HP.out]))
              clear B2 HB HStep HHit HFp HMM HST hck
              go_wp2_with fail
              go_loopw [6] (fun v6 wq => ∃ p2 : Int, 0 ≤ p2 ∧ p2 ≤ n ∧ v6 = .int .i64 p2 ∧ Hid (fj L 1 ((i : Int) + 1) = fj L 1 p2) ∧ Hid (Below w.heap.size w wq)) (fun v6 _ => ((n : Int) - intOf v6).toNat)
              case atStart => exact ⟨(i : Int) + 1, by omega, by omega, by first | rfl | go_num, rfl, HB2⟩
              case round =>
                clear HB2
                obtain ⟨p2, hr0, hr1, rfl, HFq, HB4⟩ := hrel
                have hstop : ∀ (Q : Int), Q = fj L 1 ((i : Int) + 1) → R = mayB 8204 y10 Q := fun Q e => by rw [HR2.out, e]
                have HST2 := hid hstop
                clear hstop
                by_cases hin2 : p2 < n
                · obtain ⟨k2, rfl⟩ : ∃ k2 : Nat, p2 = k2 := ⟨p2.toNat, by omega⟩
                  have hk2 : k2 < n := by omega
                  obtain ⟨b1, off1, hbe, hck2⟩ := cell_at HF.out HB4.out k2 hk2
                  cases hbe
                  have HStep2 := hid (fj_step L 1 k2 (.inl rfl) hr0 (by rw [HN.out]; exact hin2))
                  have HHit2 := hid (fj_hit L 1 k2 (.inl rfl) hr0 (by rw [HN.out]; exact hin2))
                  rw [Int.toNat_natCast] at HStep2 HHit2
                  obtain ⟨u0, u1, u3, u4, u5, u6, hfb⟩ := rfind_c (L[k2]?.getD 0)
                  have hflb := fld10 u0 u1 (sts (L[k2]?.getD 0)) u3 u4 u5 u6 (bid (L[k2]?.getD 0)) (cls (L[k2]?.getD 0)) (joi (L[k2]?.getD 0)) (mrk (L[k2]?.getD 0))
                  obtain ⟨z2, h2⟩ : ∃ y, sts (L[k2]?.getD 0) = y := ⟨_, rfl⟩
                  obtain ⟨z7, h7⟩ : ∃ y, bid (L[k2]?.getD 0) = y := ⟨_, rfl⟩
                  obtain ⟨z8, h8⟩ : ∃ y, cls (L[k2]?.getD 0) = y := ⟨_, rfl⟩
                  obtain ⟨z9, h9⟩ : ∃ y, mrk (L[k2]?.getD 0) = y := ⟨_, rfl⟩
                  obtain ⟨z10, h10⟩ : ∃ y, joi (L[k2]?.getD 0) = y := ⟨_, rfl⟩
                  rw [h2, h7, h8, h9, h10] at hfb hflb
                  rw [h10] at HStep2 HHit2
                  obtain ⟨q2, hq2⟩ : ∃ q2, L[k2]?.getD 0 = q2 := ⟨_, rfl⟩
                  rw [hq2] at hck2 hfb
                  have HQ2 := hid hq2
                  have HFB := hid hfb
                  clear hfb h2 h7 h8 h9 h10 hq2
                  by_cases hj2 : z10 = 4
                  · subst hj2
                    have HNx := hid (HStep2.out rfl)
                    go_wp2_with (go_at_call 40; refine (HFB.out _).mono ?_; rintro e w5 ⟨rfl, B5⟩)
                    go_roundw
                    case rel => exact ⟨(k2 : Int) + 1, by omega, by omega, by first | rfl | go_num, by show _ = _; rw [HFq.out, HNx.out], HB4.out.trans (B5.mono HB4.out.size)⟩
                    case measure => first | (simp [intOf]; done) | (simp [intOf]; omega)
                  · have hjb2 : (z10 == 4) = false := by simpa using hj2
                    have HQ := hid (HHit2.out hj2)
                    have hkn : ¬ ((k2 : Int) = (n : Int)) := by omega
                    have hkn2 : ((k2 : Int) == (n : Int)) = false := by simpa using hkn
                    go_upto_if 55 with (go_at_call 40; refine (HFB.out _).mono ?_; rintro e w5 ⟨rfl, B5⟩)
                    have HB5 := hid (HB4.out.trans (B5.mono HB4.out.size))
                    have HR5 := hid (HST2.out z10 (by rw [HFq.out, HQ.out]))
                    clear B5 HB4 HStep2 HHit2 HFq HST2 HR2 hck2
                    go_wp2_with fail
                    have c1 : ∀ t : N.Later w5, t.W.cell? ⟨b, off + k, none⟩ = some (.int .i32 q) := fun t => by
                      obtain ⟨b', off', e', hh⟩ := cell_at HF.out (HB5.out.trans (t.h.mono HB5.out.size)) k hk
                      cases e'
                      rw [hh, HQ1.out]
                    have c2 : ∀ t : N.Later w5, t.W.cell? ⟨b, off + k2, none⟩ = some (.int .i32 q2) := fun t => by
                      obtain ⟨b', off', e', hh⟩ := cell_at HF.out (HB5.out.trans (t.h.mono HB5.out.size)) k2 hk2
                      cases e'
                      rw [hh, HQ2.out]
                    have hne : Nonempty (N.Later w5) := ⟨⟨w5, Below.refl _ _⟩⟩
                    refine N.wp_region_quiet_in (by kernel_rfl) (by kernel_rfl) ?_
                    repeat (go_big_quiet_step ((first
                      | (go_at_call_of 40 q; exact N.Later.call _ (HFA.out _))
                      | (go_at_call_of 40 q2; exact N.Later.call _ (HFB.out _)))))
                    refine wpQuiet_nil ?_
                    rintro _ ⟨t, rfl⟩
                    have hBt := hid (HB5.out.trans (t.h.mono HB5.out.size))
                    generalize t.W = wt at *
                    clear c1 c2 hne
                    go_wp2
                    all_goals (go_ret; refine ⟨?_, hBt.out⟩; rw [HR5.out]; unfold mayB; first | (simp_all; done) | (simp_all; rw [Bool.eq_iff_iff]; simp; done) | (simp_all; rw [Bool.eq_iff_iff]; simp; omega))
                · have hpn : p2 = n := by omega
                  have HQ := hid (fj_out L 1 p2 (.inl ⟨rfl, by rw [HN.out]; omega⟩))
                  have HR5 := hid (HST2.out 0 (by rw [HFq.out, HQ.out]))
                  clear HFq HST2 HR2
                  subst hpn
                  go_wp2
                  go_ret
                  refine ⟨?_, HB4.out⟩
                  rw [HR5.out]; unfold mayB; simp
          · have HP := hid (fj_out L (-1) p (.inr ⟨rfl, by omega⟩))
            have HR2 := hid (HST.out 0 (by rw [HFp.out, HP.out]))
            have hin2 : ¬ (0 : Int) ≤ p := hin
            clear HFp HMM HST
            go_wp2_with fail
            have HB2 := HB
            clear HB
            go_loopw [6] (fun v6 wq => ∃ p2 : Int, 0 ≤ p2 ∧ p2 ≤ n ∧ v6 = .int .i64 p2 ∧ Hid (fj L 1 ((i : Int) + 1) = fj L 1 p2) ∧ Hid (Below w.heap.size w wq)) (fun v6 _ => ((n : Int) - intOf v6).toNat)
            case atStart => exact ⟨(i : Int) + 1, by omega, by omega, by first | rfl | go_num, rfl, HB2⟩
            case round =>
              clear HB2
              obtain ⟨p2, hr0, hr1, rfl, HFq, HB4⟩ := hrel
              have hstop : ∀ (Q : Int), Q = fj L 1 ((i : Int) + 1) → R = mayB 8204 0 Q := fun Q e => by rw [HR2.out, e]
              have HST2 := hid hstop
              clear hstop
              by_cases hin2 : p2 < n
              · obtain ⟨k2, rfl⟩ : ∃ k2 : Nat, p2 = k2 := ⟨p2.toNat, by omega⟩
                have hk2 : k2 < n := by omega
                obtain ⟨b1, off1, hbe, hck2⟩ := cell_at HF.out HB4.out k2 hk2
                cases hbe
                have HStep2 := hid (fj_step L 1 k2 (.inl rfl) hr0 (by rw [HN.out]; exact hin2))
                have HHit2 := hid (fj_hit L 1 k2 (.inl rfl) hr0 (by rw [HN.out]; exact hin2))
                rw [Int.toNat_natCast] at HStep2 HHit2
                obtain ⟨u0, u1, u3, u4, u5, u6, hfb⟩ := rfind_c (L[k2]?.getD 0)
                have hflb := fld10 u0 u1 (sts (L[k2]?.getD 0)) u3 u4 u5 u6 (bid (L[k2]?.getD 0)) (cls (L[k2]?.getD 0)) (joi (L[k2]?.getD 0)) (mrk (L[k2]?.getD 0))
                obtain ⟨z2, h2⟩ : ∃ y, sts (L[k2]?.getD 0) = y := ⟨_, rfl⟩
                obtain ⟨z7, h7⟩ : ∃ y, bid (L[k2]?.getD 0) = y := ⟨_, rfl⟩
                obtain ⟨z8, h8⟩ : ∃ y, cls (L[k2]?.getD 0) = y := ⟨_, rfl⟩
                obtain ⟨z9, h9⟩ : ∃ y, mrk (L[k2]?.getD 0) = y := ⟨_, rfl⟩
                obtain ⟨z10, h10⟩ : ∃ y, joi (L[k2]?.getD 0) = y := ⟨_, rfl⟩
                rw [h2, h7, h8, h9, h10] at hfb hflb
                rw [h10] at HStep2 HHit2
                obtain ⟨q2, hq2⟩ : ∃ q2, L[k2]?.getD 0 = q2 := ⟨_, rfl⟩
                rw [hq2] at hck2 hfb
                have HQ2 := hid hq2
                have HFB := hid hfb
                clear hfb h2 h7 h8 h9 h10 hq2
                by_cases hj2 : z10 = 4
                · subst hj2
                  have HNx := hid (HStep2.out rfl)
                  go_wp2_with (go_at_call 40; refine (HFB.out _).mono ?_; rintro e w5 ⟨rfl, B5⟩)
                  go_roundw
                  case rel => exact ⟨(k2 : Int) + 1, by omega, by omega, by first | rfl | go_num, by show _ = _; rw [HFq.out, HNx.out], HB4.out.trans (B5.mono HB4.out.size)⟩
                  case measure => first | (simp [intOf]; done) | (simp [intOf]; omega)
                · have hjb2 : (z10 == 4) = false := by simpa using hj2
                  have HQ := hid (HHit2.out hj2)
                  have hkn : ¬ ((k2 : Int) = (n : Int)) := by omega
                  have hkn2 : ((k2 : Int) == (n : Int)) = false := by simpa using hkn
                  go_upto_if 55 with (go_at_call 40; refine (HFB.out _).mono ?_; rintro e w5 ⟨rfl, B5⟩)
                  have HB5 := hid (HB4.out.trans (B5.mono HB4.out.size))
                  have HR5 := hid (HST2.out z10 (by rw [HFq.out, HQ.out]))
                  clear B5 HB4 HStep2 HHit2 HFq HST2 HR2 hck2
                  go_wp2
                  go_ret
                  refine ⟨?_, HB5.out⟩
                  rw [HR5.out]; unfold mayB; simp
              · have hpn : p2 = n := by omega
                have HQ := hid (fj_out L 1 p2 (.inl ⟨rfl, by rw [HN.out]; omega⟩))
                have HR5 := hid (HST2.out 0 (by rw [HFq.out, HQ.out]))
                clear HFq HST2 HR2
                subst hpn
                go_wp2
                go_ret
                refine ⟨?_, HB4.out⟩
                rw [HR5.out]; unfold mayB; simp
      · have hx2 : (x != 8204) = true := by simpa using hx1
        have hx3 : (x == 8204) = false := by simpa using hx1
        go_wp2
        go_ret
        refine ⟨?_, HB1.out⟩
        rw [HMM.out]; unfold mayB; rw [decide_eq_false hx1]; rfl
  · have h0z : ¬ (0 : Int) < (i : Int) := by omega
    rw [decide_eq_false h0, Bool.false_and, Bool.false_or] at HM
    have HZM := HM
    have HB1 := hid (Below.refl w.heap.size w)
    clear HM
    go_enter Tryz.func149, Tryz.ntmps149
    go_upto_if 20 with fail
    obtain ⟨x, hx, hcx⟩ := HX.out _ HB1.out
    have HMM : Hid (R = mayB x (fj L (-1) ((i : Int) + -1)) (fj L 1 ((i : Int) + 1))) := by show _ = _; rw [HZM.out, hx]; rfl
    clear hx HZM
    by_cases hx1 : x = 8204
    · subst hx1
      go_wp2_with fail
      go_loopw [5] (fun v5 wr => ∃ p : Int, -1 ≤ p ∧ p < n ∧ v5 = .int .i64 p ∧ Hid (fj L (-1) ((i : Int) + -1) = fj L (-1) p) ∧ Hid (Below w.heap.size w wr)) (fun v5 _ => (intOf v5 + 1).toNat)
      case atStart => exact ⟨(i : Int) - 1, by omega, by omega, by first | rfl | go_num, by show _ = _; rw [Int.sub_eq_add_neg], HB1⟩
      case round =>
        clear HB1 hcx
        obtain ⟨p, hp0, hp1, rfl, HFp, HB⟩ := hrel
        have hstop : ∀ (P : Int), P = fj L (-1) ((i : Int) + -1) → R = mayB 8204 P (fj L 1 ((i : Int) + 1)) := fun P e => by rw [HMM.out, e]
        have HST := hid hstop
        clear hstop
        by_cases hin : 0 ≤ p
        · obtain ⟨k, rfl⟩ : ∃ k : Nat, p = k := ⟨p.toNat, by omega⟩
          have hk : k < n := by omega
          obtain ⟨b1, off1, hbe, hck⟩ := cell_at HF.out HB.out k hk
          cases hbe
          have HStep := hid (fj_step L (-1) k (.inr rfl) hin (by rw [HN.out]; exact hp1))
          have HHit := hid (fj_hit L (-1) k (.inr rfl) hin (by rw [HN.out]; exact hp1))
          rw [Int.toNat_natCast] at HStep HHit
          obtain ⟨x0, x1, x3, x4, x5, x6, hfa⟩ := rfind_c (L[k]?.getD 0)
          have hfla := fld10 x0 x1 (sts (L[k]?.getD 0)) x3 x4 x5 x6 (bid (L[k]?.getD 0)) (cls (L[k]?.getD 0)) (joi (L[k]?.getD 0)) (mrk (L[k]?.getD 0))
          obtain ⟨y2, h2⟩ : ∃ y, sts (L[k]?.getD 0) = y := ⟨_, rfl⟩
          obtain ⟨y7, h7⟩ : ∃ y, bid (L[k]?.getD 0) = y := ⟨_, rfl⟩
          obtain ⟨y8, h8⟩ : ∃ y, cls (L[k]?.getD 0) = y := ⟨_, rfl⟩
          obtain ⟨y9, h9⟩ : ∃ y, mrk (L[k]?.getD 0) = y := ⟨_, rfl⟩
          obtain ⟨y10, h10⟩ : ∃ y, joi (L[k]?.getD 0) = y := ⟨_, rfl⟩
          rw [h2, h7, h8, h9, h10] at hfa hfla
          rw [h10] at HStep HHit
          obtain ⟨q, hq⟩ : ∃ q, L[k]?.getD 0 = q := ⟨_, rfl⟩
          rw [hq] at hck hfa
          have HFA := hid hfa
          have HQ1 := hid hq
          clear hfa h2 h7 h8 h9 h10 hq
          by_cases hj : y10 = 4
          · subst hj
            have HNx := hid (HStep.out rfl)
            go_wp2_with (go_at_call 40; refine (HFA.out _).mono ?_; rintro e w2 ⟨rfl, B2⟩)
            go_roundw
            case rel => exact ⟨(k : Int) - 1, by omega, by omega, by first | rfl | go_num, by show _ = _; rw [HFp.out, HNx.out]; rfl, HB.out.trans (B2.mono HB.out.size)⟩
            case measure => first | (simp [intOf]; done) | (simp [intOf]; omega)
          · have hjb : (y10 == 4) = false := by simpa using hj
            have HP := hid (HHit.out hj)
            go_upto_if 38 with (go_at_call 40; refine (HFA.out _).mono ?_; rintro e w2 ⟨rfl, B2⟩)
            have HB2 := hid (HB.out.trans (B2.mono HB.out.size))
            have HR2 := hid (HST.out y10 (by rw [HFp.out, HP.out]))
            clear B2 HB HStep HHit HFp HMM HST hck
            go_wp2_with fail
            go_loopw [6] (fun v6 wq => ∃ p2 : Int, 0 ≤ p2 ∧ p2 ≤ n ∧ v6 = .int .i64 p2 ∧ Hid (fj L 1 ((i : Int) + 1) = fj L 1 p2) ∧ Hid (Below w.heap.size w wq)) (fun v6 _ => ((n : Int) - intOf v6).toNat)
            case atStart => exact ⟨(i : Int) + 1, by omega, by omega, by first | rfl | go_num, rfl, HB2⟩
            case round =>
              clear HB2
              obtain ⟨p2, hr0, hr1, rfl, HFq, HB4⟩ := hrel
              have hstop : ∀ (Q : Int), Q = fj L 1 ((i : Int) + 1) → R = mayB 8204 y10 Q := fun Q e => by rw [HR2.out, e]
              have HST2 := hid hstop
              clear hstop
              by_cases hin2 : p2 < n
              · obtain ⟨k2, rfl⟩ : ∃ k2 : Nat, p2 = k2 := ⟨p2.toNat, by omega⟩
                have hk2 : k2 < n := by omega
                obtain ⟨b1, off1, hbe, hck2⟩ := cell_at HF.out HB4.out k2 hk2
                cases hbe
                have HStep2 := hid (fj_step L 1 k2 (.inl rfl) hr0 (by rw [HN.out]; exact hin2))
                have HHit2 := hid (fj_hit L 1 k2 (.inl rfl) hr0 (by rw [HN.out]; exact hin2))
                rw [Int.toNat_natCast] at HStep2 HHit2
                obtain ⟨u0, u1, u3, u4, u5, u6, hfb⟩ := rfind_c (L[k2]?.getD 0)
                have hflb := fld10 u0 u1 (sts (L[k2]?.getD 0)) u3 u4 u5 u6 (bid (L[k2]?.getD 0)) (cls (L[k2]?.getD 0)) (joi (L[k2]?.getD 0)) (mrk (L[k2]?.getD 0))
                obtain ⟨z2, h2⟩ : ∃ y, sts (L[k2]?.getD 0) = y := ⟨_, rfl⟩
                obtain ⟨z7, h7⟩ : ∃ y, bid (L[k2]?.getD 0) = y := ⟨_, rfl⟩
                obtain ⟨z8, h8⟩ : ∃ y, cls (L[k2]?.getD 0) = y := ⟨_, rfl⟩
                obtain ⟨z9, h9⟩ : ∃ y, mrk (L[k2]?.getD 0) = y := ⟨_, rfl⟩
                obtain ⟨z10, h10⟩ : ∃ y, joi (L[k2]?.getD 0) = y := ⟨_, rfl⟩
                rw [h2, h7, h8, h9, h10] at hfb hflb
                rw [h10] at HStep2 HHit2
                obtain ⟨q2, hq2⟩ : ∃ q2, L[k2]?.getD 0 = q2 := ⟨_, rfl⟩
                rw [hq2] at hck2 hfb
                have HQ2 := hid hq2
                have HFB := hid hfb
                clear hfb h2 h7 h8 h9 h10 hq2
                by_cases hj2 : z10 = 4
                · subst hj2
                  have HNx := hid (HStep2.out rfl)
                  go_wp2_with (go_at_call 40; refine (HFB.out _).mono ?_; rintro e w5 ⟨rfl, B5⟩)
                  go_roundw
                  case rel => exact ⟨(k2 : Int) + 1, by omega, by omega, by first | rfl | go_num, by show _ = _; rw [HFq.out, HNx.out], HB4.out.trans (B5.mono HB4.out.size)⟩
                  case measure => first | (simp [intOf]; done) | (simp [intOf]; omega)
                · have hjb2 : (z10 == 4) = false := by simpa using hj2
                  have HQ := hid (HHit2.out hj2)
                  have hkn : ¬ ((k2 : Int) = (n : Int)) := by omega
                  have hkn2 : ((k2 : Int) == (n : Int)) = false := by simpa using hkn
                  go_upto_if 55 with (go_at_call 40; refine (HFB.out _).mono ?_; rintro e w5 ⟨rfl, B5⟩)
                  have HB5 := hid (HB4.out.trans (B5.mono HB4.out.size))
                  have HR5 := hid (HST2.out z10 (by rw [HFq.out, HQ.out]))
                  clear B5 HB4 HStep2 HHit2 HFq HST2 HR2 hck2
                  go_wp2_with fail
                  have c1 : ∀ t : N.Later w5, t.W.cell? ⟨b, off + k, none⟩ = some (.int .i32 q) := fun t => by
                    obtain ⟨b', off', e', hh⟩ := cell_at HF.out (HB5.out.trans (t.h.mono HB5.out.size)) k hk
                    cases e'
                    rw [hh, HQ1.out]
                  have c2 : ∀ t : N.Later w5, t.W.cell? ⟨b, off + k2, none⟩ = some (.int .i32 q2) := fun t => by
                    obtain ⟨b', off', e', hh⟩ := cell_at HF.out (HB5.out.trans (t.h.mono HB5.out.size)) k2 hk2
                    cases e'
                    rw [hh, HQ2.out]
                  have hne : Nonempty (N.Later w5) := ⟨⟨w5, Below.refl _ _⟩⟩
                  refine N.wp_region_quiet_in (by kernel_rfl) (by kernel_rfl) ?_
                  repeat (go_big_quiet_step ((first
                    | (go_at_call_of 40 q; exact N.Later.call _ (HFA.out _))
                    | (go_at_call_of 40 q2; exact N.Later.call _ (HFB.out _)))))
                  refine wpQuiet_nil ?_
                  rintro _ ⟨t, rfl⟩
                  have hBt := hid (HB5.out.trans (t.h.mono HB5.out.size))
                  generalize t.W = wt at *
                  clear c1 c2 hne
                  go_wp2
                  all_goals (go_ret; refine ⟨?_, hBt.out⟩; rw [HR5.out]; unfold mayB; first | (simp_all; done) | (simp_all; rw [Bool.eq_iff_iff]; simp; done) | (simp_all; rw [Bool.eq_iff_iff]; simp; omega))
              · have hpn : p2 = n := by omega
                have HQ := hid (fj_out L 1 p2 (.inl ⟨rfl, by rw [HN.out]; omega⟩))
                have HR5 := hid (HST2.out 0 (by rw [HFq.out, HQ.out]))
                clear HFq HST2 HR2
                subst hpn
                go_wp2
                go_ret
                refine ⟨?_, HB4.out⟩
                rw [HR5.out]; unfold mayB; simp
        · have HP := hid (fj_out L (-1) p (.inr ⟨rfl, by omega⟩))
          have HR2 := hid (HST.out 0 (by rw [HFp.out, HP.out]))
          have hin2 : ¬ (0 : Int) ≤ p := hin
          clear HFp HMM HST
          go_wp2_with fail
          have HB2 := HB
          clear HB
          go_loopw [6] (fun v6 wq => ∃ p2 : Int, 0 ≤ p2 ∧ p2 ≤ n ∧ v6 = .int .i64 p2 ∧ Hid (fj L 1 ((i : Int) + 1) = fj L 1 p2) ∧ Hid (Below w.heap.size w wq)) (fun v6 _ => ((n : Int) - intOf v6).toNat)
          case atStart => exact ⟨(i : Int) + 1, by omega, by omega, by first | rfl | go_num, rfl, HB2⟩
          case round =>
            clear HB2
            obtain ⟨p2, hr0, hr1, rfl, HFq, HB4⟩ := hrel
            have hstop : ∀ (Q : Int), Q = fj L 1 ((i : Int) + 1) → R = mayB 8204 0 Q := fun Q e => by rw [HR2.out, e]
            have HST2 := hid hstop
            clear hstop
            by_cases hin2 : p2 < n
            · obtain ⟨k2, rfl⟩ : ∃ k2 : Nat, p2 = k2 := ⟨p2.toNat, by omega⟩
              have hk2 : k2 < n := by omega
              obtain ⟨b1, off1, hbe, hck2⟩ := cell_at HF.out HB4.out k2 hk2
              cases hbe
              have HStep2 := hid (fj_step L 1 k2 (.inl rfl) hr0 (by rw [HN.out]; exact hin2))
              have HHit2 := hid (fj_hit L 1 k2 (.inl rfl) hr0 (by rw [HN.out]; exact hin2))
              rw [Int.toNat_natCast] at HStep2 HHit2
              obtain ⟨u0, u1, u3, u4, u5, u6, hfb⟩ := rfind_c (L[k2]?.getD 0)
              have hflb := fld10 u0 u1 (sts (L[k2]?.getD 0)) u3 u4 u5 u6 (bid (L[k2]?.getD 0)) (cls (L[k2]?.getD 0)) (joi (L[k2]?.getD 0)) (mrk (L[k2]?.getD 0))
              obtain ⟨z2, h2⟩ : ∃ y, sts (L[k2]?.getD 0) = y := ⟨_, rfl⟩
              obtain ⟨z7, h7⟩ : ∃ y, bid (L[k2]?.getD 0) = y := ⟨_, rfl⟩
              obtain ⟨z8, h8⟩ : ∃ y, cls (L[k2]?.getD 0) = y := ⟨_, rfl⟩
              obtain ⟨z9, h9⟩ : ∃ y, mrk (L[k2]?.getD 0) = y := ⟨_, rfl⟩
              obtain ⟨z10, h10⟩ : ∃ y, joi (L[k2]?.getD 0) = y := ⟨_, rfl⟩
              rw [h2, h7, h8, h9, h10] at hfb hflb
              rw [h10] at HStep2 HHit2
              obtain ⟨q2, hq2⟩ : ∃ q2, L[k2]?.getD 0 = q2 := ⟨_, rfl⟩
              rw [hq2] at hck2 hfb
              have HQ2 := hid hq2
              have HFB := hid hfb
              clear hfb h2 h7 h8 h9 h10 hq2
              by_cases hj2 : z10 = 4
              · subst hj2
                have HNx := hid (HStep2.out rfl)
                go_wp2_with (go_at_call 40; refine (HFB.out _).mono ?_; rintro e w5 ⟨rfl, B5⟩)
                go_roundw
                case rel => exact ⟨(k2 : Int) + 1, by omega, by omega, by first | rfl | go_num, by show _ = _; rw [HFq.out, HNx.out], HB4.out.trans (B5.mono HB4.out.size)⟩
                case measure => first | (simp [intOf]; done) | (simp [intOf]; omega)
              · have hjb2 : (z10 == 4) = false := by simpa using hj2
                have HQ := hid (HHit2.out hj2)
                have hkn : ¬ ((k2 : Int) = (n : Int)) := by omega
                have hkn2 : ((k2 : Int) == (n : Int)) = false := by simpa using hkn
                go_upto_if 55 with (go_at_call 40; refine (HFB.out _).mono ?_; rintro e w5 ⟨rfl, B5⟩)
                have HB5 := hid (HB4.out.trans (B5.mono HB4.out.size))
                have HR5 := hid (HST2.out z10 (by rw [HFq.out, HQ.out]))
                clear B5 HB4 HStep2 HHit2 HFq HST2 HR2 hck2
                go_wp2
                go_ret
                refine ⟨?_, HB5.out⟩
                rw [HR5.out]; unfold mayB; simp
            · have hpn : p2 = n := by omega
              have HQ := hid (fj_out L 1 p2 (.inl ⟨rfl, by rw [HN.out]; omega⟩))
              have HR5 := hid (HST2.out 0 (by rw [HFq.out, HQ.out]))
              clear HFq HST2 HR2
              subst hpn
              go_wp2
              go_ret
              refine ⟨?_, HB4.out⟩
              rw [HR5.out]; unfold mayB; simp
    · have hx2 : (x != 8204) = true := by simpa using hx1
      have hx3 : (x == 8204) = false := by simpa using hx1
      go_wp2
      go_ret
      refine ⟨?_, HB1.out⟩
      rw [HMM.out]; unfold mayB; rw [decide_eq_false hx1]; rfl
end Go.Proofs.YtdncaehajhmcoaaGreat.L
