/- The walk of SpanSets. -/
import Derived.Test.YtlgnnljleooenaaDoorT
namespace Go.Proofs.YtlgnnljleooenaaDoor
open Go.RowKit
set_option linter.unusedVariables false

theorem card_bd (f : Int → Bool) : 0 ≤ (card f : Int) ∧ (card f : Int) ≤ 1114112 := by
  have := List.countP_le_length (p := fun i : Nat => f (i : Int)) (l := List.range 1114112)
  rw [List.length_range] at this
  unfold card cf
  omega
theorem all_has (x : Int) : hasP [(0, 1114111)] x = decide (0 ≤ x ∧ x ≤ 1114111) := by simp [hasP]
theorem chk_all : chk [(0, 1114111)] = 0 := by decide
theorem card_not {f : Int → Bool} (hf : Fits f) : (card (fun x => cLess (hasP [(0, 1114111)] x) (f x)) : Int) + card f = 1114112 := by
  have a := cf_less_and (fun x => hasP [(0, 1114111)] x) f (List.range 1114112)
  have b : cf (fun x => hasP [(0, 1114111)] x && f x) (List.range 1114112) = cf f (List.range 1114112) := cf_congr fun i hi => by
    rw [all_has, decide_eq_true (by rw [List.mem_range] at hi; omega)]; simp
  have c : cf (fun x => hasP [(0, 1114111)] x) (List.range 1114112) = (List.range 1114112).length := cf_all fun i hi => by
    rw [all_has, decide_eq_true (by rw [List.mem_range] at hi; omega)]
  rw [List.length_range] at c
  show (cf (fun x => hasP [(0, 1114111)] x && !f x) (List.range 1114112) : Int) + (cf f (List.range 1114112) : Int) = 1114112
  omega
theorem card_or_and (f g : Int → Bool) : (card (fun x => cOr (f x) (g x)) : Int) + card (fun x => cAnd (f x) (g x)) = card f + card g := by
  have a := cf_or_and f g (List.range 1114112)
  show (cf (fun x => f x || g x) (List.range 1114112) : Int) + (cf (fun x => f x && g x) (List.range 1114112) : Int) = cf f (List.range 1114112) + cf g (List.range 1114112)
  omega
theorem card_less_and (f g : Int → Bool) : (card (fun x => cLess (f x) (g x)) : Int) + card (fun x => cAnd (f x) (g x)) = card f := by
  have a := cf_less_and f g (List.range 1114112)
  show (cf (fun x => f x && !g x) (List.range 1114112) : Int) + (cf (fun x => f x && g x) (List.range 1114112) : Int) = cf f (List.range 1114112)
  omega

set_option maxRecDepth 100000 in
set_option maxHeartbeats 4000000 in
theorem sets_main (a b : List Sp) (l : List Int) (pa : Option Addr) (ka : Nat) (pb : Option Addr) (kb : Nat) (pl : Option Addr) (kl : Nat) (w : World) (hT : Tab w) (hva : SpansAt w (.slice pa a.length ka) a) (hvb : SpansAt w (.slice pb b.length kb) b) (hvl : IntsAt w (.slice pl l.length kl) l)
    (hla : a.length ≤ 60) (hlb : b.length ≤ 60) (hll : l.length ≤ 200) (HCa : Hid (chk a = 0)) (HCb : Hid (chk b = 0)) :
    Calls Tryd.prog 5 #[.slice pa a.length ka, .slice pb b.length kb, .slice pl l.length kl] w fun e W' => e = .returned (.bool true) ∧ Below w.heap.size w W' := by
  have q1 : ¬ (60 : Int) < (a.length : Int) := by omega
  have q2 : ¬ (60 : Int) < (b.length : Int) := by omega
  have q3 : ¬ (200 : Int) < (l.length : Int) := by omega
  have HFA := hid' (fits_has (chk_zero HCa.out).2)
  have HFO := hid' (fits_two (c := cOr) rfl (chk_zero HCa.out).2 (chk_zero HCb.out).2)
  have HFM := hid' (fits_two (c := cAnd) rfl (chk_zero HCa.out).2 (chk_zero HCb.out).2)
  have HFD := hid' (fits_two (c := cLess) rfl (chk_zero HCa.out).2 (chk_zero HCb.out).2)
  have HFN := hid' (fits_two (c := cLess) rfl (chk_zero chk_all).2 (chk_zero HCa.out).2)
  go_enter Tryd.func5, Tryd.ntmps5
  go_wp2_with fail
  refine (check_any _ a (by omega) _ hva).mono ?_
  rw [HCa.out]
  rintro e w1 ⟨rfl, hB0⟩
  go_wp2_with fail
  refine (check_any _ b (by omega) _ (hvb.below hB0 (Nat.le_refl _))).mono ?_
  rw [HCb.out]
  rintro e w2 ⟨rfl, hb2⟩
  have hB1 := hB0.trans (hb2.mono hB0.size)
  clear hb2 hB0
  go_wp2_with fail
  refine (copied_any _ a (by omega) _ (hva.below hB1 (Nat.le_refl _))).mono ?_
  rintro e w3 ⟨v3, rfl, how3, hb3⟩
  have hca3q := SpansAt.own rfl how3
  clear how3
  have hB3 := hB1.trans (hb3.mono hB1.size)
  clear hB1 hb3
  go_wp2_with fail
  refine (copied_any _ b (by omega) _ (hvb.below hB3 (Nat.le_refl _))).mono ?_
  rintro e w4 ⟨v4, rfl, how4, hb4⟩
  have hcb4q := SpansAt.own rfl how4
  clear how4
  have hB4 := hB3.trans (hb4.mono hB3.size)
  have hca4 := hca3q.below hb4 (Nat.le_refl _)
  clear hB3 hca3q hb4
  go_wp2_with fail
  refine (union_any _ _ a b (by omega) (by omega) _ hca4 hcb4q).mono ?_
  rintro e w5 ⟨⟨p5, k5, u, r5, rfl, hM5, hu5q⟩, hb5⟩
  obtain ⟨rfl, hnf5, hl5⟩ := hM5.ok HCa.out HCb.out (by (try simp only [List.length_cons, List.length_nil]); omega)
  have Hu := hid' hnf5
  have hl_u : u.length ≤ 120 := by (try simp only [List.length_cons, List.length_nil] at hl5); omega
  clear hM5 hnf5 hl5
  have hB5 := hB4.trans (hb5.mono hB4.size)
  clear hB4 hb5
  go_wp2_with fail
  refine (copied_any _ a (by omega) _ (hva.below hB5 (Nat.le_refl _))).mono ?_
  rintro e w6 ⟨v6, rfl, how6, hb6⟩
  have hca6q := SpansAt.own rfl how6
  clear how6
  have hB6 := hB5.trans (hb6.mono hB5.size)
  have hu6 := hu5q.below hb6 (Nat.le_refl _)
  clear hB5 hu5q hb6
  go_wp2_with fail
  refine (copied_any _ b (by omega) _ (hvb.below hB6 (Nat.le_refl _))).mono ?_
  rintro e w7 ⟨v7, rfl, how7, hb7⟩
  have hcb7q := SpansAt.own rfl how7
  clear how7
  have hB7 := hB6.trans (hb7.mono hB6.size)
  have hu7 := hu6.below hb7 (Nat.le_refl _)
  have hca7 := hca6q.below hb7 (Nat.le_refl _)
  clear hB6 hu6 hca6q hb7
  go_wp2_with fail
  refine (meet_any _ _ a b (by omega) (by omega) _ hca7 hcb7q).mono ?_
  rintro e w8 ⟨⟨p8, k8, m, r8, rfl, hM8, hm8q⟩, hb8⟩
  obtain ⟨rfl, hnf8, hl8⟩ := hM8.ok HCa.out HCb.out (by (try simp only [List.length_cons, List.length_nil]); omega)
  have Hm := hid' hnf8
  have hl_m : m.length ≤ 120 := by (try simp only [List.length_cons, List.length_nil] at hl8); omega
  clear hM8 hnf8 hl8
  have hB8 := hB7.trans (hb8.mono hB7.size)
  have hu8 := hu7.below hb8 (Nat.le_refl _)
  clear hB7 hu7 hb8
  go_wp2_with fail
  refine (copied_any _ a (by omega) _ (hva.below hB8 (Nat.le_refl _))).mono ?_
  rintro e w9 ⟨v9, rfl, how9, hb9⟩
  have hca9q := SpansAt.own rfl how9
  clear how9
  have hB9 := hB8.trans (hb9.mono hB8.size)
  have hu9 := hu8.below hb9 (Nat.le_refl _)
  have hm9 := hm8q.below hb9 (Nat.le_refl _)
  clear hB8 hu8 hm8q hb9
  go_wp2_with fail
  refine (copied_any _ b (by omega) _ (hvb.below hB9 (Nat.le_refl _))).mono ?_
  rintro e w10 ⟨v10, rfl, how10, hb10⟩
  have hcb10q := SpansAt.own rfl how10
  clear how10
  have hB10 := hB9.trans (hb10.mono hB9.size)
  have hu10 := hu9.below hb10 (Nat.le_refl _)
  have hm10 := hm9.below hb10 (Nat.le_refl _)
  have hca10 := hca9q.below hb10 (Nat.le_refl _)
  clear hB9 hu9 hm9 hca9q hb10
  go_wp2_with fail
  refine (minus_any _ _ a b (by omega) (by omega) _ hca10 hcb10q).mono ?_
  rintro e w11 ⟨⟨p11, k11, d, r11, rfl, hM11, hd11q⟩, hb11⟩
  obtain ⟨rfl, hnf11, hl11⟩ := hM11.ok HCa.out HCb.out (by (try simp only [List.length_cons, List.length_nil]); omega)
  have Hd := hid' hnf11
  have hl_d : d.length ≤ 120 := by (try simp only [List.length_cons, List.length_nil] at hl11); omega
  clear hM11 hnf11 hl11
  have hB11 := hB10.trans (hb11.mono hB10.size)
  have hu11 := hu10.below hb11 (Nat.le_refl _)
  have hm11 := hm10.below hb11 (Nat.le_refl _)
  clear hB10 hu10 hm10 hb11
  go_wp2_with fail
  refine (copied_any _ a (by omega) _ (hva.below hB11 (Nat.le_refl _))).mono ?_
  rintro e w12 ⟨v12, rfl, how12, hb12⟩
  have hca12q := SpansAt.own rfl how12
  clear how12
  have hB12 := hB11.trans (hb12.mono hB11.size)
  have hu12 := hu11.below hb12 (Nat.le_refl _)
  have hm12 := hm11.below hb12 (Nat.le_refl _)
  have hd12 := hd11q.below hb12 (Nat.le_refl _)
  clear hB11 hu11 hm11 hd11q hb12
  go_wp2_with fail
  refine (not_any _ a (by omega) _ hca12q).mono ?_
  rintro e w13 ⟨⟨p13, k13, n, r13, rfl, hM13, hn13q⟩, hb13⟩
  obtain ⟨rfl, hnf13, hl13⟩ := hM13.ok chk_all HCa.out (by (try simp only [List.length_cons, List.length_nil]); omega)
  have Hn := hid' hnf13
  have hl_n : n.length ≤ 61 := by (try simp only [List.length_cons, List.length_nil] at hl13); omega
  clear hM13 hnf13 hl13
  have hB13 := hB12.trans (hb13.mono hB12.size)
  have hu13 := hu12.below hb13 (Nat.le_refl _)
  have hm13 := hm12.below hb13 (Nat.le_refl _)
  have hd13 := hd12.below hb13 (Nat.le_refl _)
  clear hB12 hu12 hm12 hd12 hb13
  have HCN := hid' (chk_nf Hn.out HFN.out (by omega))
  go_wp2_with fail
  refine (copied_any _ n (by omega) _ hn13q).mono ?_
  rintro e w14 ⟨v14, rfl, how14, hb14⟩
  have hcn14q := SpansAt.own rfl how14
  clear how14
  have hB14 := hB13.trans (hb14.mono hB13.size)
  have hu14 := hu13.below hb14 (Nat.le_refl _)
  have hm14 := hm13.below hb14 (Nat.le_refl _)
  have hd14 := hd13.below hb14 (Nat.le_refl _)
  have hn14 := hn13q.below hb14 (Nat.le_refl _)
  clear hB13 hu13 hm13 hd13 hn13q hb14
  go_wp2_with fail
  refine (not_any _ n (by omega) _ hcn14q).mono ?_
  rintro e w15 ⟨⟨p15, k15, back, r15, rfl, hM15, hback15q⟩, hb15⟩
  obtain ⟨rfl, hnf15, hl15⟩ := hM15.ok chk_all HCN.out (by (try simp only [List.length_cons, List.length_nil]); omega)
  have Hback := hid' hnf15
  have hl_back : back.length ≤ 62 := by (try simp only [List.length_cons, List.length_nil] at hl15); omega
  clear hM15 hnf15 hl15
  have hB15 := hB14.trans (hb15.mono hB14.size)
  have hu15 := hu14.below hb15 (Nat.le_refl _)
  have hm15 := hm14.below hb15 (Nat.le_refl _)
  have hd15 := hd14.below hb15 (Nat.le_refl _)
  have hn15 := hn14.below hb15 (Nat.le_refl _)
  clear hB14 hu14 hm14 hd14 hn14 hb15
  go_wp2_with fail
  refine (copied_any _ a (by omega) _ (hva.below hB15 (Nat.le_refl _))).mono ?_
  rintro e w16 ⟨v16, rfl, how16, hb16⟩
  have hca16q := SpansAt.own rfl how16
  clear how16
  have hB16 := hB15.trans (hb16.mono hB15.size)
  have hu16 := hu15.below hb16 (Nat.le_refl _)
  have hm16 := hm15.below hb16 (Nat.le_refl _)
  have hd16 := hd15.below hb16 (Nat.le_refl _)
  have hn16 := hn15.below hb16 (Nat.le_refl _)
  have hback16 := hback15q.below hb16 (Nat.le_refl _)
  clear hB15 hu15 hm15 hd15 hn15 hback15q hb16
  go_wp2_with fail
  refine (norm_any _ a (by omega) _ hca16q).mono ?_
  rintro e w17 ⟨⟨p17, k17, norm, r17, rfl, hN17, hnorm17q⟩, hb17⟩
  rcases hN17 with ⟨hc17, _⟩ | ⟨-, hnf17, hl17, rfl⟩
  · exact absurd HCa.out hc17
  have Hnorm := hid' hnf17
  have hl_norm : norm.length ≤ 60 := by omega
  clear hnf17 hl17
  have hB17 := hB16.trans (hb17.mono hB16.size)
  have hu17 := hu16.below hb17 (Nat.le_refl _)
  have hm17 := hm16.below hb17 (Nat.le_refl _)
  have hd17 := hd16.below hb17 (Nat.le_refl _)
  have hn17 := hn16.below hb17 (Nat.le_refl _)
  have hback17 := hback16.below hb17 (Nat.le_refl _)
  clear hB16 hu16 hm16 hd16 hn16 hback16 hb17
  have HEQ : Hid (back = norm) := (Hback.out.congr fun x => by
    rw [Hn.out.has, all_has]
    cases hx : hasP a x with
    | true => rw [decide_eq_true (HFA.out x hx)]; rfl
    | false => cases decide (0 ≤ x ∧ x ≤ 1114111) <;> rfl).unique Hnorm.out
  have HCU := hid' (chk_nf Hu.out HFO.out (by omega))
  have HCM := hid' (chk_nf Hm.out HFM.out (by omega))
  have HCD := hid' (chk_nf Hd.out HFD.out (by omega))
  go_wp2_with fail
  refine (same_any _ _ back norm (by omega) (by omega) _ hback17 hnorm17q).mono ?_
  rw [decide_eq_true (HEQ.out)]
  rintro e wq18 ⟨rfl, n18, hq18⟩
  obtain ⟨w18, hw18⟩ : ∃ w18, w18 = wq18 := ⟨_, rfl⟩
  rw [← hw18]
  have hb18 : Below w17.heap.size w17 w18 := by rw [hw18, hq18]; exact below_drewN (Below.refl _ _) n18
  clear hw18 hq18 wq18
  have hB18 := hB17.trans (hb18.mono hB17.size)
  have hu18 := hu17.below hb18 (Nat.le_refl _)
  have hm18 := hm17.below hb18 (Nat.le_refl _)
  have hd18 := hd17.below hb18 (Nat.le_refl _)
  have hn18 := hn17.below hb18 (Nat.le_refl _)
  have hback18 := hback17.below hb18 (Nat.le_refl _)
  have hnorm18 := hnorm17q.below hb18 (Nat.le_refl _)
  clear hB17 hu17 hm17 hd17 hn17 hback17 hnorm17q hb18
  clear hback18 hnorm18
  go_wp2_with fail
  refine (count_any _ a (by omega) _ (hva.below hB18 (Nat.le_refl _))).mono ?_
  rintro e w19 ⟨⟨n19, rfl, hR19⟩, hb19⟩
  have HK19 := hid' (hR19.of_ok HCa.out)
  have hn19b : 0 ≤ n19 ∧ n19 ≤ 1114112 := by rw [HK19.out]; exact card_bd _
  clear hR19
  have hB19 := hB18.trans (hb19.mono hB18.size)
  have hu19 := hu18.below hb19 (Nat.le_refl _)
  have hm19 := hm18.below hb19 (Nat.le_refl _)
  have hd19 := hd18.below hb19 (Nat.le_refl _)
  have hn19 := hn18.below hb19 (Nat.le_refl _)
  clear hB18 hu18 hm18 hd18 hn18 hb19
  go_wp2_with fail
  refine (count_any _ n (by omega) _ hn19).mono ?_
  rintro e w20 ⟨⟨n20, rfl, hR20⟩, hb20⟩
  have HK20 := hid' (hR20.of_nf (a := a) Hn.out HFN.out (by omega))
  have hn20b : 0 ≤ n20 ∧ n20 ≤ 1114112 := by rw [HK20.out]; exact card_bd _
  clear hR20
  have hB20 := hB19.trans (hb20.mono hB19.size)
  have hu20 := hu19.below hb20 (Nat.le_refl _)
  have hm20 := hm19.below hb20 (Nat.le_refl _)
  have hd20 := hd19.below hb20 (Nat.le_refl _)
  have hn20 := hn19.below hb20 (Nat.le_refl _)
  clear hB19 hu19 hm19 hd19 hn19 hb20
  have s1 : n19 + n20 = 1114112 := by rw [HK19.out, HK20.out]; have := card_not HFA.out; omega
  go_wp2_with fail
  refine (count_any _ u (by omega) _ hu20).mono ?_
  rintro e w21 ⟨⟨n21, rfl, hR21⟩, hb21⟩
  have HK21 := hid' (hR21.of_nf (a := a) Hu.out HFO.out (by omega))
  have hn21b : 0 ≤ n21 ∧ n21 ≤ 1114112 := by rw [HK21.out]; exact card_bd _
  clear hR21
  have hB21 := hB20.trans (hb21.mono hB20.size)
  have hu21 := hu20.below hb21 (Nat.le_refl _)
  have hm21 := hm20.below hb21 (Nat.le_refl _)
  have hd21 := hd20.below hb21 (Nat.le_refl _)
  have hn21 := hn20.below hb21 (Nat.le_refl _)
  clear hB20 hu20 hm20 hd20 hn20 hb21
  go_wp2_with fail
  refine (count_any _ m (by omega) _ hm21).mono ?_
  rintro e w22 ⟨⟨n22, rfl, hR22⟩, hb22⟩
  have HK22 := hid' (hR22.of_nf (a := a) Hm.out HFM.out (by omega))
  have hn22b : 0 ≤ n22 ∧ n22 ≤ 1114112 := by rw [HK22.out]; exact card_bd _
  clear hR22
  have hB22 := hB21.trans (hb22.mono hB21.size)
  have hu22 := hu21.below hb22 (Nat.le_refl _)
  have hm22 := hm21.below hb22 (Nat.le_refl _)
  have hd22 := hd21.below hb22 (Nat.le_refl _)
  have hn22 := hn21.below hb22 (Nat.le_refl _)
  clear hB21 hu21 hm21 hd21 hn21 hb22
  go_wp2_with fail
  refine (count_any _ a (by omega) _ (hva.below hB22 (Nat.le_refl _))).mono ?_
  rintro e w23 ⟨⟨n23, rfl, hR23⟩, hb23⟩
  have HK23 := hid' (hR23.of_ok HCa.out)
  have hn23b : 0 ≤ n23 ∧ n23 ≤ 1114112 := by rw [HK23.out]; exact card_bd _
  clear hR23
  have hB23 := hB22.trans (hb23.mono hB22.size)
  have hu23 := hu22.below hb23 (Nat.le_refl _)
  have hm23 := hm22.below hb23 (Nat.le_refl _)
  have hd23 := hd22.below hb23 (Nat.le_refl _)
  have hn23 := hn22.below hb23 (Nat.le_refl _)
  clear hB22 hu22 hm22 hd22 hn22 hb23
  go_wp2_with fail
  refine (count_any _ b (by omega) _ (hvb.below hB23 (Nat.le_refl _))).mono ?_
  rintro e w24 ⟨⟨n24, rfl, hR24⟩, hb24⟩
  have HK24 := hid' (hR24.of_ok HCb.out)
  have hn24b : 0 ≤ n24 ∧ n24 ≤ 1114112 := by rw [HK24.out]; exact card_bd _
  clear hR24
  have hB24 := hB23.trans (hb24.mono hB23.size)
  have hu24 := hu23.below hb24 (Nat.le_refl _)
  have hm24 := hm23.below hb24 (Nat.le_refl _)
  have hd24 := hd23.below hb24 (Nat.le_refl _)
  have hn24 := hn23.below hb24 (Nat.le_refl _)
  clear hB23 hu23 hm23 hd23 hn23 hb24
  have s2 : n21 + n22 = n23 + n24 := by rw [HK21.out, HK22.out, HK23.out, HK24.out]; exact card_or_and _ _
  go_wp2_with fail
  refine (count_any _ d (by omega) _ hd24).mono ?_
  rintro e w25 ⟨⟨n25, rfl, hR25⟩, hb25⟩
  have HK25 := hid' (hR25.of_nf (a := a) Hd.out HFD.out (by omega))
  have hn25b : 0 ≤ n25 ∧ n25 ≤ 1114112 := by rw [HK25.out]; exact card_bd _
  clear hR25
  have hB25 := hB24.trans (hb25.mono hB24.size)
  have hu25 := hu24.below hb25 (Nat.le_refl _)
  have hm25 := hm24.below hb25 (Nat.le_refl _)
  have hd25 := hd24.below hb25 (Nat.le_refl _)
  have hn25 := hn24.below hb25 (Nat.le_refl _)
  clear hB24 hu24 hm24 hd24 hn24 hb25
  go_wp2_with fail
  refine (count_any _ m (by omega) _ hm25).mono ?_
  rintro e w26 ⟨⟨n26, rfl, hR26⟩, hb26⟩
  have HK26 := hid' (hR26.of_nf (a := a) Hm.out HFM.out (by omega))
  have hn26b : 0 ≤ n26 ∧ n26 ≤ 1114112 := by rw [HK26.out]; exact card_bd _
  clear hR26
  have hB26 := hB25.trans (hb26.mono hB25.size)
  have hu26 := hu25.below hb26 (Nat.le_refl _)
  have hm26 := hm25.below hb26 (Nat.le_refl _)
  have hd26 := hd25.below hb26 (Nat.le_refl _)
  have hn26 := hn25.below hb26 (Nat.le_refl _)
  clear hB25 hu25 hm25 hd25 hn25 hb26
  go_wp2_with fail
  refine (count_any _ a (by omega) _ (hva.below hB26 (Nat.le_refl _))).mono ?_
  rintro e w27 ⟨⟨n27, rfl, hR27⟩, hb27⟩
  have HK27 := hid' (hR27.of_ok HCa.out)
  have hn27b : 0 ≤ n27 ∧ n27 ≤ 1114112 := by rw [HK27.out]; exact card_bd _
  clear hR27
  have hB27 := hB26.trans (hb27.mono hB26.size)
  have hu27 := hu26.below hb27 (Nat.le_refl _)
  have hm27 := hm26.below hb27 (Nat.le_refl _)
  have hd27 := hd26.below hb27 (Nat.le_refl _)
  have hn27 := hn26.below hb27 (Nat.le_refl _)
  clear hB26 hu26 hm26 hd26 hn26 hb27
  have s3 : n25 + n26 = n27 := by rw [HK25.out, HK26.out, HK27.out]; exact card_less_and _ _
  go_wp2_with fail
  obtain ⟨WL, hWL⟩ : ∃ WL, WL = w27 := ⟨_, rfl⟩
  go_loopw [19] (fun i wr => ∃ k : Nat, k ≤ l.length ∧ i = .int .i64 k ∧ Below w27.heap.size w27 wr)
    (fun i _ => l.length - (intOf i).toNat)
  case atStart => exact ⟨0, Nat.zero_le _, rfl, Below.refl _ _⟩
  case round =>
    obtain ⟨k, hk, rfl, hbr⟩ := hrel
    have hB900 := hB27.trans (hbr.mono hB27.size)
    by_cases hlt : k < l.length
    · obtain ⟨al, cl, el, -, hl0⟩ := hvl
      simp only [Value.slice.injEq] at el
      obtain ⟨rfl, -, rfl⟩ := el
      obtain ⟨bl, ol, rfl, hlc⟩ := hl0 (by omega)
      have hck := hlc k hlt
      obtain ⟨r, hr⟩ : ∃ r, r = l[k]?.getD 0 := ⟨_, rfl⟩
      rw [← hr] at hck
      have hbl := lt_of_cell hck
      dsimp only at hbl
      have hcr := (hB900.cell (p := ⟨bl, ol + k, none⟩) hbl).trans hck
      clear hr hck hlc hl0
      have hu900 := hu27.below hbr (Nat.le_refl _)
      have hm900 := hm27.below hbr (Nat.le_refl _)
      have hd900 := hd27.below hbr (Nat.le_refl _)
      have hn900 := hn27.below hbr (Nat.le_refl _)
      have EA := hid' (hasA_ok HCa.out r)
      have EB := hid' (hasA_ok HCb.out r)
      have EU : Hid (hasA u r = cOr (hasP a r) (hasP b r)) := by show _ = _; rw [hasA_ok HCU.out, Hu.out.has]
      have EM : Hid (hasA m r = cAnd (hasP a r) (hasP b r)) := by show _ = _; rw [hasA_ok HCM.out, Hm.out.has]
      have ED : Hid (hasA d r = cLess (hasP a r) (hasP b r)) := by show _ = _; rw [hasA_ok HCD.out, Hd.out.has]
      have EN : Hid (hasA n r = cLess (decide (0 ≤ r ∧ r ≤ 1114111)) (hasP a r)) := by show _ = _; rw [hasA_ok HCN.out, Hn.out.has, all_has]
      have hlt' : (k : Int) < (l.length : Int) := by omega
      clear s1 s2 s3 hB27 hu27 hm27 hd27 hn27
      by_cases hin : 0 ≤ r ∧ r ≤ 1114111
      · obtain ⟨hi0, hi1⟩ := hin
        have EI : Hid (decide (0 ≤ r ∧ r ≤ 1114111) = true) := decide_eq_true ⟨hi0, hi1⟩
        cases hX : hasP a r <;> cases hY : hasP b r
        all_goals
          have HX := hid' hX
          have HY := hid' hY
          clear hX hY
          go_wp2_with fail
          refine (has_any _ a r (by omega) _ (hva.below hB900 (Nat.le_refl _))).mono ?_
          rw [EA.out, HX.out]
          rintro e w901 ⟨rfl, hb901⟩
          have hbr901 := hbr.trans (hb901.mono hbr.size)
          have hB901 := hB900.trans (hb901.mono hB900.size)
          have hu901 := hu900.below hb901 (Nat.le_refl _)
          have hm901 := hm900.below hb901 (Nat.le_refl _)
          have hd901 := hd900.below hb901 (Nat.le_refl _)
          have hn901 := hn900.below hb901 (Nat.le_refl _)
          clear hB900 hu900 hm900 hd900 hn900 hb901
          go_wp2_with fail
          refine (has_any _ b r (by omega) _ (hvb.below hB901 (Nat.le_refl _))).mono ?_
          rw [EB.out, HY.out]
          rintro e w902 ⟨rfl, hb902⟩
          have hbr902 := hbr901.trans (hb902.mono hbr901.size)
          have hB902 := hB901.trans (hb902.mono hB901.size)
          have hu902 := hu901.below hb902 (Nat.le_refl _)
          have hm902 := hm901.below hb902 (Nat.le_refl _)
          have hd902 := hd901.below hb902 (Nat.le_refl _)
          have hn902 := hn901.below hb902 (Nat.le_refl _)
          clear hB901 hu901 hm901 hd901 hn901 hb902
          go_wp2_with fail
          refine (has_any _ u r (by omega) _ hu902).mono ?_
          rw [EU.out, HX.out, HY.out]
          rintro e w903 ⟨rfl, hb903⟩
          have hbr903 := hbr902.trans (hb903.mono hbr902.size)
          have hB903 := hB902.trans (hb903.mono hB902.size)
          have hu903 := hu902.below hb903 (Nat.le_refl _)
          have hm903 := hm902.below hb903 (Nat.le_refl _)
          have hd903 := hd902.below hb903 (Nat.le_refl _)
          have hn903 := hn902.below hb903 (Nat.le_refl _)
          clear hB902 hu902 hm902 hd902 hn902 hb903
          go_wp2_with fail
          refine (has_any _ m r (by omega) _ hm903).mono ?_
          rw [EM.out, HX.out, HY.out]
          rintro e w904 ⟨rfl, hb904⟩
          have hbr904 := hbr903.trans (hb904.mono hbr903.size)
          have hB904 := hB903.trans (hb904.mono hB903.size)
          have hu904 := hu903.below hb904 (Nat.le_refl _)
          have hm904 := hm903.below hb904 (Nat.le_refl _)
          have hd904 := hd903.below hb904 (Nat.le_refl _)
          have hn904 := hn903.below hb904 (Nat.le_refl _)
          clear hB903 hu903 hm903 hd903 hn903 hb904
          go_wp2_with fail
          refine (has_any _ d r (by omega) _ hd904).mono ?_
          rw [ED.out, HX.out, HY.out]
          rintro e w905 ⟨rfl, hb905⟩
          have hbr905 := hbr904.trans (hb905.mono hbr904.size)
          have hB905 := hB904.trans (hb905.mono hB904.size)
          have hu905 := hu904.below hb905 (Nat.le_refl _)
          have hm905 := hm904.below hb905 (Nat.le_refl _)
          have hd905 := hd904.below hb905 (Nat.le_refl _)
          have hn905 := hn904.below hb905 (Nat.le_refl _)
          clear hB904 hu904 hm904 hd904 hn904 hb905
          go_wp2_with fail
          refine (has_any _ n r (by omega) _ hn905).mono ?_
          rw [EN.out, EI.out, HX.out]
          rintro e w906 ⟨rfl, hb906⟩
          have hbr906 := hbr905.trans (hb906.mono hbr905.size)
          have hB906 := hB905.trans (hb906.mono hB905.size)
          have hu906 := hu905.below hb906 (Nat.le_refl _)
          have hm906 := hm905.below hb906 (Nat.le_refl _)
          have hd906 := hd905.below hb906 (Nat.le_refl _)
          have hn906 := hn905.below hb906 (Nat.le_refl _)
          clear hB905 hu905 hm905 hd905 hn905 hb906
          go_wp2
          go_roundw
          case rel => exact ⟨k + 1, by omega, by go_num, hbr906⟩
          case measure => simp [intOf]; omega
      · have EI : Hid (decide (0 ≤ r ∧ r ≤ 1114111) = false) := decide_eq_false hin
        have hX : hasP a r = false := by
          cases h : hasP a r with
          | false => rfl
          | true => exact absurd (HFA.out r h) hin
        cases hY : hasP b r
        all_goals
          have HX := hid' hX
          have HY := hid' hY
          clear hX hY
          by_cases hi0 : r < 0
          · go_wp2_with fail
            refine (has_any _ a r (by omega) _ (hva.below hB900 (Nat.le_refl _))).mono ?_
            rw [EA.out, HX.out]
            rintro e w901 ⟨rfl, hb901⟩
            have hbr901 := hbr.trans (hb901.mono hbr.size)
            have hB901 := hB900.trans (hb901.mono hB900.size)
            have hu901 := hu900.below hb901 (Nat.le_refl _)
            have hm901 := hm900.below hb901 (Nat.le_refl _)
            have hd901 := hd900.below hb901 (Nat.le_refl _)
            have hn901 := hn900.below hb901 (Nat.le_refl _)
            clear hB900 hu900 hm900 hd900 hn900 hb901
            go_wp2_with fail
            refine (has_any _ b r (by omega) _ (hvb.below hB901 (Nat.le_refl _))).mono ?_
            rw [EB.out, HY.out]
            rintro e w902 ⟨rfl, hb902⟩
            have hbr902 := hbr901.trans (hb902.mono hbr901.size)
            have hB902 := hB901.trans (hb902.mono hB901.size)
            have hu902 := hu901.below hb902 (Nat.le_refl _)
            have hm902 := hm901.below hb902 (Nat.le_refl _)
            have hd902 := hd901.below hb902 (Nat.le_refl _)
            have hn902 := hn901.below hb902 (Nat.le_refl _)
            clear hB901 hu901 hm901 hd901 hn901 hb902
            go_wp2_with fail
            refine (has_any _ u r (by omega) _ hu902).mono ?_
            rw [EU.out, HX.out, HY.out]
            rintro e w903 ⟨rfl, hb903⟩
            have hbr903 := hbr902.trans (hb903.mono hbr902.size)
            have hB903 := hB902.trans (hb903.mono hB902.size)
            have hu903 := hu902.below hb903 (Nat.le_refl _)
            have hm903 := hm902.below hb903 (Nat.le_refl _)
            have hd903 := hd902.below hb903 (Nat.le_refl _)
            have hn903 := hn902.below hb903 (Nat.le_refl _)
            clear hB902 hu902 hm902 hd902 hn902 hb903
            go_wp2_with fail
            refine (has_any _ m r (by omega) _ hm903).mono ?_
            rw [EM.out, HX.out, HY.out]
            rintro e w904 ⟨rfl, hb904⟩
            have hbr904 := hbr903.trans (hb904.mono hbr903.size)
            have hB904 := hB903.trans (hb904.mono hB903.size)
            have hu904 := hu903.below hb904 (Nat.le_refl _)
            have hm904 := hm903.below hb904 (Nat.le_refl _)
            have hd904 := hd903.below hb904 (Nat.le_refl _)
            have hn904 := hn903.below hb904 (Nat.le_refl _)
            clear hB903 hu903 hm903 hd903 hn903 hb904
            go_wp2_with fail
            refine (has_any _ d r (by omega) _ hd904).mono ?_
            rw [ED.out, HX.out, HY.out]
            rintro e w905 ⟨rfl, hb905⟩
            have hbr905 := hbr904.trans (hb905.mono hbr904.size)
            have hB905 := hB904.trans (hb905.mono hB904.size)
            have hu905 := hu904.below hb905 (Nat.le_refl _)
            have hm905 := hm904.below hb905 (Nat.le_refl _)
            have hd905 := hd904.below hb905 (Nat.le_refl _)
            have hn905 := hn904.below hb905 (Nat.le_refl _)
            clear hB904 hu904 hm904 hd904 hn904 hb905
            go_wp2_with fail
            refine (has_any _ n r (by omega) _ hn905).mono ?_
            rw [EN.out, EI.out, HX.out]
            rintro e w906 ⟨rfl, hb906⟩
            have hbr906 := hbr905.trans (hb906.mono hbr905.size)
            have hB906 := hB905.trans (hb906.mono hB905.size)
            have hu906 := hu905.below hb906 (Nat.le_refl _)
            have hm906 := hm905.below hb906 (Nat.le_refl _)
            have hd906 := hd905.below hb906 (Nat.le_refl _)
            have hn906 := hn905.below hb906 (Nat.le_refl _)
            clear hB905 hu905 hm905 hd905 hn905 hb906
            go_wp2
            go_roundw
            case rel => exact ⟨k + 1, by omega, by go_num, hbr906⟩
            case measure => simp [intOf]; omega
          · have hi1 : 1114111 < r := by omega
            go_wp2_with fail
            refine (has_any _ a r (by omega) _ (hva.below hB900 (Nat.le_refl _))).mono ?_
            rw [EA.out, HX.out]
            rintro e w901 ⟨rfl, hb901⟩
            have hbr901 := hbr.trans (hb901.mono hbr.size)
            have hB901 := hB900.trans (hb901.mono hB900.size)
            have hu901 := hu900.below hb901 (Nat.le_refl _)
            have hm901 := hm900.below hb901 (Nat.le_refl _)
            have hd901 := hd900.below hb901 (Nat.le_refl _)
            have hn901 := hn900.below hb901 (Nat.le_refl _)
            clear hB900 hu900 hm900 hd900 hn900 hb901
            go_wp2_with fail
            refine (has_any _ b r (by omega) _ (hvb.below hB901 (Nat.le_refl _))).mono ?_
            rw [EB.out, HY.out]
            rintro e w902 ⟨rfl, hb902⟩
            have hbr902 := hbr901.trans (hb902.mono hbr901.size)
            have hB902 := hB901.trans (hb902.mono hB901.size)
            have hu902 := hu901.below hb902 (Nat.le_refl _)
            have hm902 := hm901.below hb902 (Nat.le_refl _)
            have hd902 := hd901.below hb902 (Nat.le_refl _)
            have hn902 := hn901.below hb902 (Nat.le_refl _)
            clear hB901 hu901 hm901 hd901 hn901 hb902
            go_wp2_with fail
            refine (has_any _ u r (by omega) _ hu902).mono ?_
            rw [EU.out, HX.out, HY.out]
            rintro e w903 ⟨rfl, hb903⟩
            have hbr903 := hbr902.trans (hb903.mono hbr902.size)
            have hB903 := hB902.trans (hb903.mono hB902.size)
            have hu903 := hu902.below hb903 (Nat.le_refl _)
            have hm903 := hm902.below hb903 (Nat.le_refl _)
            have hd903 := hd902.below hb903 (Nat.le_refl _)
            have hn903 := hn902.below hb903 (Nat.le_refl _)
            clear hB902 hu902 hm902 hd902 hn902 hb903
            go_wp2_with fail
            refine (has_any _ m r (by omega) _ hm903).mono ?_
            rw [EM.out, HX.out, HY.out]
            rintro e w904 ⟨rfl, hb904⟩
            have hbr904 := hbr903.trans (hb904.mono hbr903.size)
            have hB904 := hB903.trans (hb904.mono hB903.size)
            have hu904 := hu903.below hb904 (Nat.le_refl _)
            have hm904 := hm903.below hb904 (Nat.le_refl _)
            have hd904 := hd903.below hb904 (Nat.le_refl _)
            have hn904 := hn903.below hb904 (Nat.le_refl _)
            clear hB903 hu903 hm903 hd903 hn903 hb904
            go_wp2_with fail
            refine (has_any _ d r (by omega) _ hd904).mono ?_
            rw [ED.out, HX.out, HY.out]
            rintro e w905 ⟨rfl, hb905⟩
            have hbr905 := hbr904.trans (hb905.mono hbr904.size)
            have hB905 := hB904.trans (hb905.mono hB904.size)
            have hu905 := hu904.below hb905 (Nat.le_refl _)
            have hm905 := hm904.below hb905 (Nat.le_refl _)
            have hd905 := hd904.below hb905 (Nat.le_refl _)
            have hn905 := hn904.below hb905 (Nat.le_refl _)
            clear hB904 hu904 hm904 hd904 hn904 hb905
            go_wp2_with fail
            refine (has_any _ n r (by omega) _ hn905).mono ?_
            rw [EN.out, EI.out, HX.out]
            rintro e w906 ⟨rfl, hb906⟩
            have hbr906 := hbr905.trans (hb906.mono hbr905.size)
            have hB906 := hB905.trans (hb906.mono hB905.size)
            have hu906 := hu905.below hb906 (Nat.le_refl _)
            have hm906 := hm905.below hb906 (Nat.le_refl _)
            have hd906 := hd905.below hb906 (Nat.le_refl _)
            have hn906 := hn905.below hb906 (Nat.le_refl _)
            clear hB905 hu905 hm905 hd905 hn905 hb906
            go_wp2
            go_roundw
            case rel => exact ⟨k + 1, by omega, by go_num, hbr906⟩
            case measure => simp [intOf]; omega
    · have hlt' : ¬ (k : Int) < (l.length : Int) := by omega
      go_wp2_with fail
      refine (works_any _ (hT.below hB900 (Nat.le_refl _))).mono ?_
      rintro e w901 ⟨rfl, h901⟩
      go_wp2
      go_ret
      exact ⟨rfl, hB900.trans (h901.mono hB900.size)⟩
end Go.Proofs.YtlgnnljleooenaaDoor
