/- The walk of SpanMakes. -/
import Derived.Test.YtlgnnljleooenaaDoorAa
namespace Go.Proofs.YtlgnnljleooenaaDoor
open Go.RowKit
set_option linter.unusedVariables false

theorem many_all (v : Value) (l : List Sp) (w : World) (hv : SpansAt w v l) :
    Calls Tryd.prog 8 #[v] w fun e W' => e = .returned (.bool (decide (1084 < l.length))) ∧ W' = w := by
  obtain ⟨a, cap, rfl, -, -⟩ := hv
  go_enter Tryd.func8, Tryd.ntmps8
  go_wp2
  go_ret
  refine ⟨?_, rfl⟩
  apply ret_bool
  by_cases h : 1084 < l.length <;> simp [h] <;> omega

set_option maxRecDepth 100000 in
set_option maxHeartbeats 4000000 in
theorem makes_walk (va : Value) (a : List Sp) (vb : Value) (b : List Sp) (r : Int) (w : World) (hT : Tab w) (hva : SpansAt w va a) (hvb : SpansAt w vb b) :
    Calls Tryd.prog 3 #[va, vb, .int .i32 r] w fun e W' => e = .returned (.bool true) ∧ Below w.heap.size w W' := by
  by_cases hla : 1084 < a.length
  · go_enter Tryd.func3, Tryd.ntmps3
    go_wp2_with fail
    refine (many_all _ a _ hva).mono ?_
    rw [decide_eq_true hla]
    rintro e w1 ⟨rfl, rfl⟩
    go_wp2_with fail
    refine (works_any _ hT).mono ?_
    rintro e w2 ⟨rfl, h2⟩
    go_wp2
    go_ret
    exact ⟨rfl, h2⟩
  by_cases hlb : 1084 < b.length
  · go_enter Tryd.func3, Tryd.ntmps3
    go_wp2_with fail
    refine (many_all _ a _ hva).mono ?_
    rw [decide_eq_false hla]
    rintro e w1 ⟨rfl, rfl⟩
    go_wp2_with fail
    refine (many_all _ b _ hvb).mono ?_
    rw [decide_eq_true hlb]
    rintro e w1 ⟨rfl, rfl⟩
    go_wp2_with fail
    refine (works_any _ hT).mono ?_
    rintro e w2 ⟨rfl, h2⟩
    go_wp2
    go_ret
    exact ⟨rfl, h2⟩
  go_enter Tryd.func3, Tryd.ntmps3
  go_wp2_with fail
  refine (many_all _ a _ hva).mono ?_
  rw [decide_eq_false hla]
  rintro e w1 ⟨rfl, rfl⟩
  go_wp2_with fail
  refine (many_all _ b _ hvb).mono ?_
  rw [decide_eq_false hlb]
  rintro e w2 ⟨rfl, hw2⟩
  have hB2 : Below w2.heap.size w2 w2 := Below.refl _ _
  subst hw2
  go_wp2_with fail
  refine (copied_any _ a (by omega) _ (hva.below hB2 (Nat.le_refl _))).mono ?_
  rintro e w3 ⟨v3, rfl, how3, hb3⟩
  have hx3q := SpansAt.own rfl how3
  clear how3
  have hB3 := hB2.trans (hb3.mono hB2.size)
  clear hB2 hb3
  go_wp2_with fail
  refine (copied_any _ b (by omega) _ (hvb.below hB3 (Nat.le_refl _))).mono ?_
  rintro e w4 ⟨v4, rfl, how4, hb4⟩
  have hy4q := SpansAt.own rfl how4
  clear how4
  have hB4 := hB3.trans (hb4.mono hB3.size)
  have hx4 := hx3q.below hb4 (Nat.le_refl _)
  clear hB3 hx3q hb4
  go_wp2_with fail
  refine (union_any _ _ a b (by omega) (by omega) _ hx4 hy4q).mono ?_
  rintro e w5 ⟨⟨p5, k5, u, r_u, rfl, hM5, hu5q⟩, hb5⟩
  have Hu := hid' hM5
  have hl_u := made_len hM5
  clear hM5
  have hB5 := hB4.trans (hb5.mono hB4.size)
  have hx5 := hx4.below hb5 (Nat.le_refl _)
  have hy5 := hy4q.below hb5 (Nat.le_refl _)
  clear hB4 hx4 hy4q hb5
  go_wp2_with fail
  refine (meet_any _ _ a b (by omega) (by omega) _ hx5 hy5).mono ?_
  rintro e w6 ⟨⟨p6, k6, m, r_m, rfl, hM6, hm6q⟩, hb6⟩
  have Hm := hid' hM6
  have hl_m := made_len hM6
  clear hM6
  have hB6 := hB5.trans (hb6.mono hB5.size)
  have hx6 := hx5.below hb6 (Nat.le_refl _)
  have hy6 := hy5.below hb6 (Nat.le_refl _)
  have hu6 := hu5q.below hb6 (Nat.le_refl _)
  clear hB5 hx5 hy5 hu5q hb6
  go_wp2_with fail
  refine (minus_any _ _ a b (by omega) (by omega) _ hx6 hy6).mono ?_
  rintro e w7 ⟨⟨p7, k7, l, r_l, rfl, hM7, hl7q⟩, hb7⟩
  have Hl := hid' hM7
  have hl_l := made_len hM7
  clear hM7
  have hB7 := hB6.trans (hb7.mono hB6.size)
  have hx7 := hx6.below hb7 (Nat.le_refl _)
  have hy7 := hy6.below hb7 (Nat.le_refl _)
  have hu7 := hu6.below hb7 (Nat.le_refl _)
  have hm7 := hm6q.below hb7 (Nat.le_refl _)
  clear hB6 hx6 hy6 hu6 hm6q hb7
  go_wp2_with fail
  refine (not_any _ a (by omega) _ hx7).mono ?_
  rintro e w8 ⟨⟨p8, k8, n, r_n, rfl, hM8, hn8q⟩, hb8⟩
  have Hn := hid' hM8
  have hl_n := made_len hM8
  clear hM8
  have hB8 := hB7.trans (hb8.mono hB7.size)
  have hx8 := hx7.below hb8 (Nat.le_refl _)
  have hy8 := hy7.below hb8 (Nat.le_refl _)
  have hu8 := hu7.below hb8 (Nat.le_refl _)
  have hm8 := hm7.below hb8 (Nat.le_refl _)
  have hl8 := hl7q.below hb8 (Nat.le_refl _)
  clear hB7 hx7 hy7 hu7 hm7 hl7q hb8
  go_wp2_with fail
  refine (norm_any _ a (by omega) _ hx8).mono ?_
  rintro e w9 ⟨⟨p9, k9, o, r_o, rfl, hM9, ho9q⟩, hb9⟩
  have Ho := hid' hM9
  have hl_o : o.length ≤ 1084 := by
    rcases hM9 with ⟨_, rfl, _⟩ | ⟨_, _, h, _⟩
    · simp
    · omega
  clear hM9
  have hB9 := hB8.trans (hb9.mono hB8.size)
  have hx9 := hx8.below hb9 (Nat.le_refl _)
  have hy9 := hy8.below hb9 (Nat.le_refl _)
  have hu9 := hu8.below hb9 (Nat.le_refl _)
  have hm9 := hm8.below hb9 (Nat.le_refl _)
  have hl9 := hl8.below hb9 (Nat.le_refl _)
  have hn9 := hn8q.below hb9 (Nat.le_refl _)
  clear hB8 hx8 hy8 hu8 hm8 hl8 hn8q hb9
  go_wp2_with fail
  refine (made_any 0 (.inl rfl) _ _ a b (by omega) (by omega) _ (hva.below hB9 (Nat.le_refl _)) (hvb.below hB9 (Nat.le_refl _))).mono ?_
  rintro e w10 ⟨⟨p10, k10, p, r_p, rfl, hM10, hp10q⟩, hb10⟩
  have Hp := hid' hM10
  have hl_p := rmade_len hM10
  clear hM10
  have hB10 := hB9.trans (hb10.mono hB9.size)
  have hx10 := hx9.below hb10 (Nat.le_refl _)
  have hy10 := hy9.below hb10 (Nat.le_refl _)
  have hu10 := hu9.below hb10 (Nat.le_refl _)
  have hm10 := hm9.below hb10 (Nat.le_refl _)
  have hl10 := hl9.below hb10 (Nat.le_refl _)
  have hn10 := hn9.below hb10 (Nat.le_refl _)
  have ho10 := ho9q.below hb10 (Nat.le_refl _)
  clear hB9 hx9 hy9 hu9 hm9 hl9 hn9 ho9q hb10
  go_wp2_with fail
  refine (made_any 1 (.inr (.inl rfl)) _ _ a b (by omega) (by omega) _ (hva.below hB10 (Nat.le_refl _)) (hvb.below hB10 (Nat.le_refl _))).mono ?_
  rintro e w11 ⟨⟨p11, k11, q, r_q, rfl, hM11, hq11q⟩, hb11⟩
  have Hq := hid' hM11
  have hl_q := rmade_len hM11
  clear hM11
  have hB11 := hB10.trans (hb11.mono hB10.size)
  have hx11 := hx10.below hb11 (Nat.le_refl _)
  have hy11 := hy10.below hb11 (Nat.le_refl _)
  have hu11 := hu10.below hb11 (Nat.le_refl _)
  have hm11 := hm10.below hb11 (Nat.le_refl _)
  have hl11 := hl10.below hb11 (Nat.le_refl _)
  have hn11 := hn10.below hb11 (Nat.le_refl _)
  have ho11 := ho10.below hb11 (Nat.le_refl _)
  have hp11 := hp10q.below hb11 (Nat.le_refl _)
  clear hB10 hx10 hy10 hu10 hm10 hl10 hn10 ho10 hp10q hb11
  go_wp2_with fail
  refine (made_any 2 (.inr (.inr (.inl rfl))) _ _ a b (by omega) (by omega) _ (hva.below hB11 (Nat.le_refl _)) (hvb.below hB11 (Nat.le_refl _))).mono ?_
  rintro e w12 ⟨⟨p12, k12, s, r_s, rfl, hM12, hs12q⟩, hb12⟩
  have Hs := hid' hM12
  have hl_s := rmade_len hM12
  clear hM12
  have hB12 := hB11.trans (hb12.mono hB11.size)
  have hx12 := hx11.below hb12 (Nat.le_refl _)
  have hy12 := hy11.below hb12 (Nat.le_refl _)
  have hu12 := hu11.below hb12 (Nat.le_refl _)
  have hm12 := hm11.below hb12 (Nat.le_refl _)
  have hl12 := hl11.below hb12 (Nat.le_refl _)
  have hn12 := hn11.below hb12 (Nat.le_refl _)
  have ho12 := ho11.below hb12 (Nat.le_refl _)
  have hp12 := hp11.below hb12 (Nat.le_refl _)
  have hq12 := hq11q.below hb12 (Nat.le_refl _)
  clear hB11 hx11 hy11 hu11 hm11 hl11 hn11 ho11 hp11 hq11q hb12
  go_wp2_with fail
  refine (made_any 3 (.inr (.inr (.inr rfl))) _ _ a [] (by omega) (by simp) _ (hva.below hB12 (Nat.le_refl _)) (SpansAt.nil _)).mono ?_
  rintro e w13 ⟨⟨p13, k13, t, r_t, rfl, hM13, ht13q⟩, hb13⟩
  have Ht := hid' hM13
  have hl_t := rmade_len hM13
  clear hM13
  have hB13 := hB12.trans (hb13.mono hB12.size)
  have hx13 := hx12.below hb13 (Nat.le_refl _)
  have hy13 := hy12.below hb13 (Nat.le_refl _)
  have hu13 := hu12.below hb13 (Nat.le_refl _)
  have hm13 := hm12.below hb13 (Nat.le_refl _)
  have hl13 := hl12.below hb13 (Nat.le_refl _)
  have hn13 := hn12.below hb13 (Nat.le_refl _)
  have ho13 := ho12.below hb13 (Nat.le_refl _)
  have hp13 := hp12.below hb13 (Nat.le_refl _)
  have hq13 := hq12.below hb13 (Nat.le_refl _)
  have hs13 := hs12q.below hb13 (Nat.le_refl _)
  clear hB12 hx12 hy12 hu12 hm12 hl12 hn12 ho12 hp12 hq12 hs12q hb13
  go_wp2_with fail
  refine (rnorm_any _ a (by omega) _ (hva.below hB13 (Nat.le_refl _))).mono ?_
  rintro e w14 ⟨⟨p14, k14, z, r_z, rfl, hM14, hz14q⟩, hb14⟩
  have Hz := hid' hM14
  have hl_z := rmade_len hM14
  clear hM14
  have hB14 := hB13.trans (hb14.mono hB13.size)
  have hx14 := hx13.below hb14 (Nat.le_refl _)
  have hy14 := hy13.below hb14 (Nat.le_refl _)
  have hu14 := hu13.below hb14 (Nat.le_refl _)
  have hm14 := hm13.below hb14 (Nat.le_refl _)
  have hl14 := hl13.below hb14 (Nat.le_refl _)
  have hn14 := hn13.below hb14 (Nat.le_refl _)
  have ho14 := ho13.below hb14 (Nat.le_refl _)
  have hp14 := hp13.below hb14 (Nat.le_refl _)
  have hq14 := hq13.below hb14 (Nat.le_refl _)
  have hs14 := hs13.below hb14 (Nat.le_refl _)
  have ht14 := ht13q.below hb14 (Nat.le_refl _)
  clear hB13 hx13 hy13 hu13 hm13 hl13 hn13 ho13 hp13 hq13 hs13 ht13q hb14
  have e1 := rmade_eq (c := cOr) (h := 0) (fun x y => by simp [how, cOr]) rfl Hu.out Hp.out
  have e2 := rmade_eq (c := cAnd) (h := 1) (fun x y => by simp [how, cAnd]) rfl Hm.out Hq.out
  have e3 := rmade_eq (c := cLess) (h := 2) (fun x y => by simp [how, cLess]) rfl Hl.out Hs.out
  have e4 := rnot_eq Hn.out Ht.out
  have e5 := rnorm_eq Ho.out Hz.out
  have E1 := hid' e1.1
  have E2 := hid' e2.1
  have E3 := hid' e3.1
  have E4 := hid' e4.1
  have E5 := hid' e5.1
  have F1 := e1.2
  have F2 := e2.2
  have F3 := e3.2
  have F4 := e4.2
  have F5 := e5.2
  clear e1 e2 e3 e4 e5 Hu Hm Hl Hn Ho Hp Hq Hs Ht Hz
  subst F1 F2 F3 F4 F5
  go_wp2_with fail
  refine (same_any _ _ u p (by omega) (by omega) _ hu14 hp14).mono ?_
  rw [decide_eq_true (E1.out)]
  rintro e wq15 ⟨rfl, n15, hq15⟩
  obtain ⟨w15, hw15⟩ : ∃ w15, w15 = wq15 := ⟨_, rfl⟩
  rw [← hw15]
  have hb15 : Below w14.heap.size w14 w15 := by rw [hw15, hq15]; exact below_drewN (Below.refl _ _) n15
  clear hw15 hq15 wq15
  have hB15 := hB14.trans (hb15.mono hB14.size)
  have hx15 := hx14.below hb15 (Nat.le_refl _)
  have hy15 := hy14.below hb15 (Nat.le_refl _)
  have hu15 := hu14.below hb15 (Nat.le_refl _)
  have hm15 := hm14.below hb15 (Nat.le_refl _)
  have hl15 := hl14.below hb15 (Nat.le_refl _)
  have hn15 := hn14.below hb15 (Nat.le_refl _)
  have ho15 := ho14.below hb15 (Nat.le_refl _)
  have hp15 := hp14.below hb15 (Nat.le_refl _)
  have hq15 := hq14.below hb15 (Nat.le_refl _)
  have hs15 := hs14.below hb15 (Nat.le_refl _)
  have ht15 := ht14.below hb15 (Nat.le_refl _)
  have hz15 := hz14q.below hb15 (Nat.le_refl _)
  clear hB14 hx14 hy14 hu14 hm14 hl14 hn14 ho14 hp14 hq14 hs14 ht14 hz14q hb15
  go_wp2_with fail
  refine (same_any _ _ m q (by omega) (by omega) _ hm15 hq15).mono ?_
  rw [decide_eq_true (E2.out)]
  rintro e wq16 ⟨rfl, n16, hq16⟩
  obtain ⟨w16, hw16⟩ : ∃ w16, w16 = wq16 := ⟨_, rfl⟩
  rw [← hw16]
  have hb16 : Below w15.heap.size w15 w16 := by rw [hw16, hq16]; exact below_drewN (Below.refl _ _) n16
  clear hw16 hq16 wq16
  have hB16 := hB15.trans (hb16.mono hB15.size)
  have hx16 := hx15.below hb16 (Nat.le_refl _)
  have hy16 := hy15.below hb16 (Nat.le_refl _)
  have hu16 := hu15.below hb16 (Nat.le_refl _)
  have hm16 := hm15.below hb16 (Nat.le_refl _)
  have hl16 := hl15.below hb16 (Nat.le_refl _)
  have hn16 := hn15.below hb16 (Nat.le_refl _)
  have ho16 := ho15.below hb16 (Nat.le_refl _)
  have hp16 := hp15.below hb16 (Nat.le_refl _)
  have hq16 := hq15.below hb16 (Nat.le_refl _)
  have hs16 := hs15.below hb16 (Nat.le_refl _)
  have ht16 := ht15.below hb16 (Nat.le_refl _)
  have hz16 := hz15.below hb16 (Nat.le_refl _)
  clear hB15 hx15 hy15 hu15 hm15 hl15 hn15 ho15 hp15 hq15 hs15 ht15 hz15 hb16
  go_wp2_with fail
  refine (same_any _ _ l s (by omega) (by omega) _ hl16 hs16).mono ?_
  rw [decide_eq_true (E3.out)]
  rintro e wq17 ⟨rfl, n17, hq17⟩
  obtain ⟨w17, hw17⟩ : ∃ w17, w17 = wq17 := ⟨_, rfl⟩
  rw [← hw17]
  have hb17 : Below w16.heap.size w16 w17 := by rw [hw17, hq17]; exact below_drewN (Below.refl _ _) n17
  clear hw17 hq17 wq17
  have hB17 := hB16.trans (hb17.mono hB16.size)
  have hx17 := hx16.below hb17 (Nat.le_refl _)
  have hy17 := hy16.below hb17 (Nat.le_refl _)
  have hu17 := hu16.below hb17 (Nat.le_refl _)
  have hm17 := hm16.below hb17 (Nat.le_refl _)
  have hl17 := hl16.below hb17 (Nat.le_refl _)
  have hn17 := hn16.below hb17 (Nat.le_refl _)
  have ho17 := ho16.below hb17 (Nat.le_refl _)
  have hp17 := hp16.below hb17 (Nat.le_refl _)
  have hq17 := hq16.below hb17 (Nat.le_refl _)
  have hs17 := hs16.below hb17 (Nat.le_refl _)
  have ht17 := ht16.below hb17 (Nat.le_refl _)
  have hz17 := hz16.below hb17 (Nat.le_refl _)
  clear hB16 hx16 hy16 hu16 hm16 hl16 hn16 ho16 hp16 hq16 hs16 ht16 hz16 hb17
  go_wp2_with fail
  refine (same_any _ _ n t (by omega) (by omega) _ hn17 ht17).mono ?_
  rw [decide_eq_true (E4.out)]
  rintro e wq18 ⟨rfl, n18, hq18⟩
  obtain ⟨w18, hw18⟩ : ∃ w18, w18 = wq18 := ⟨_, rfl⟩
  rw [← hw18]
  have hb18 : Below w17.heap.size w17 w18 := by rw [hw18, hq18]; exact below_drewN (Below.refl _ _) n18
  clear hw18 hq18 wq18
  have hB18 := hB17.trans (hb18.mono hB17.size)
  have hx18 := hx17.below hb18 (Nat.le_refl _)
  have hy18 := hy17.below hb18 (Nat.le_refl _)
  have hu18 := hu17.below hb18 (Nat.le_refl _)
  have hm18 := hm17.below hb18 (Nat.le_refl _)
  have hl18 := hl17.below hb18 (Nat.le_refl _)
  have hn18 := hn17.below hb18 (Nat.le_refl _)
  have ho18 := ho17.below hb18 (Nat.le_refl _)
  have hp18 := hp17.below hb18 (Nat.le_refl _)
  have hq18 := hq17.below hb18 (Nat.le_refl _)
  have hs18 := hs17.below hb18 (Nat.le_refl _)
  have ht18 := ht17.below hb18 (Nat.le_refl _)
  have hz18 := hz17.below hb18 (Nat.le_refl _)
  clear hB17 hx17 hy17 hu17 hm17 hl17 hn17 ho17 hp17 hq17 hs17 ht17 hz17 hb18
  go_wp2_with fail
  refine (same_any _ _ o z (by omega) (by omega) _ ho18 hz18).mono ?_
  rw [decide_eq_true (E5.out)]
  rintro e wq19 ⟨rfl, n19, hq19⟩
  obtain ⟨w19, hw19⟩ : ∃ w19, w19 = wq19 := ⟨_, rfl⟩
  rw [← hw19]
  have hb19 : Below w18.heap.size w18 w19 := by rw [hw19, hq19]; exact below_drewN (Below.refl _ _) n19
  clear hw19 hq19 wq19
  have hB19 := hB18.trans (hb19.mono hB18.size)
  have hx19 := hx18.below hb19 (Nat.le_refl _)
  have hy19 := hy18.below hb19 (Nat.le_refl _)
  have hu19 := hu18.below hb19 (Nat.le_refl _)
  have hm19 := hm18.below hb19 (Nat.le_refl _)
  have hl19 := hl18.below hb19 (Nat.le_refl _)
  have hn19 := hn18.below hb19 (Nat.le_refl _)
  have ho19 := ho18.below hb19 (Nat.le_refl _)
  have hp19 := hp18.below hb19 (Nat.le_refl _)
  have hq19 := hq18.below hb19 (Nat.le_refl _)
  have hs19 := hs18.below hb19 (Nat.le_refl _)
  have ht19 := ht18.below hb19 (Nat.le_refl _)
  have hz19 := hz18.below hb19 (Nat.le_refl _)
  clear hB18 hx18 hy18 hu18 hm18 hl18 hn18 ho18 hp18 hq18 hs18 ht18 hz18 hb19
  clear hu19
  clear hm19
  clear hl19
  clear hn19
  clear ho19
  clear hp19
  clear hq19
  clear hs19
  clear ht19
  clear hz19
  go_wp2_with fail
  refine (rcheck_any _ a (by omega) _ (hva.below hB19 (Nat.le_refl _))).mono ?_
  rintro e wq20 ⟨rfl, n20, hq20⟩
  obtain ⟨w20, hw20⟩ : ∃ w20, w20 = wq20 := ⟨_, rfl⟩
  rw [← hw20]
  have hb20 : Below w19.heap.size w19 w20 := by rw [hw20, hq20]; exact below_drewN (Below.refl _ _) n20
  clear hw20 hq20 wq20
  have hB20 := hB19.trans (hb20.mono hB19.size)
  have hx20 := hx19.below hb20 (Nat.le_refl _)
  have hy20 := hy19.below hb20 (Nat.le_refl _)
  clear hB19 hx19 hy19 hb20
  go_wp2_with fail
  refine (check_any _ a (by omega) _ hx20).mono ?_
  rintro e w21 ⟨rfl, hb21⟩
  have hB21 := hB20.trans (hb21.mono hB20.size)
  have hx21 := hx20.below hb21 (Nat.le_refl _)
  have hy21 := hy20.below hb21 (Nat.le_refl _)
  clear hB20 hx20 hy20 hb21
  go_wp2_with fail
  refine (has_any _ a r (by omega) _ hx21).mono ?_
  rintro e w22 ⟨rfl, hb22⟩
  have hB22 := hB21.trans (hb22.mono hB21.size)
  have hx22 := hx21.below hb22 (Nat.le_refl _)
  have hy22 := hy21.below hb22 (Nat.le_refl _)
  clear hB21 hx21 hy21 hb22
  by_cases hca : chk a = 0
  · have hA := hasA_ok hca r
    rw [hA, hca]
    cases hx : hasP a r
    all_goals
      have HX := hid' hx
      clear hA hca hx
      have hz : True := trivial
      go_wp2_with fail
      refine (rhas_any _ a r (by omega) _ (hva.below hB22 (Nat.le_refl _))).mono ?_
      rw [HX.out]
      rintro e w23 ⟨rfl, hww23⟩
      have hb23 : Below w22.heap.size w22 w23 := by rw [hww23]; exact Below.refl _ _
      clear hww23
      have hB23 := hB22.trans (hb23.mono hB22.size)
      have hx23 := hx22.below hb23 (Nat.le_refl _)
      have hy23 := hy22.below hb23 (Nat.le_refl _)
      clear hB22 hx22 hy22 hb23
      go_wp2_with fail
      refine (count_any _ a (by omega) _ hx23).mono ?_
      rintro e w24 ⟨⟨c24, rfl, hR24⟩, hb24⟩
      have HR24 := hid' hR24
      clear hR24
      have hB24 := hB23.trans (hb24.mono hB23.size)
      have hx24 := hx23.below hb24 (Nat.le_refl _)
      have hy24 := hy23.below hb24 (Nat.le_refl _)
      clear hB23 hx23 hy23 hb24
      go_wp2_with fail
      refine (rcount_any _ a (by omega) _ (hva.below hB24 (Nat.le_refl _))).mono ?_
      rintro e w25 ⟨⟨c25, rfl, hR25⟩, hb25⟩
      obtain rfl : c24 = c25 := HR24.out.unique hR25
      clear hR25 HR24
      have hB25 := hB24.trans (hb25.mono hB24.size)
      have hx25 := hx24.below hb25 (Nat.le_refl _)
      have hy25 := hy24.below hb25 (Nat.le_refl _)
      clear hB24 hx24 hy24 hb25
      go_wp2_with fail
      refine (same_any _ _ a a (by omega) (by omega) _ hx25 (hva.below hB25 (Nat.le_refl _))).mono ?_
      rw [decide_eq_true (Eq.refl a)]
      rintro e wq26 ⟨rfl, n26, hq26⟩
      obtain ⟨w26, hw26⟩ : ∃ w26, w26 = wq26 := ⟨_, rfl⟩
      rw [← hw26]
      have hb26 : Below w25.heap.size w25 w26 := by rw [hw26, hq26]; exact below_drewN (Below.refl _ _) n26
      clear hw26 hq26 wq26
      have hB26 := hB25.trans (hb26.mono hB25.size)
      have hx26 := hx25.below hb26 (Nat.le_refl _)
      have hy26 := hy25.below hb26 (Nat.le_refl _)
      clear hB25 hx25 hy25 hb26
      go_wp2_with fail
      refine (same_any _ _ b b (by omega) (by omega) _ hy26 (hvb.below hB26 (Nat.le_refl _))).mono ?_
      rw [decide_eq_true (Eq.refl b)]
      rintro e wq27 ⟨rfl, n27, hq27⟩
      obtain ⟨w27, hw27⟩ : ∃ w27, w27 = wq27 := ⟨_, rfl⟩
      rw [← hw27]
      have hb27 : Below w26.heap.size w26 w27 := by rw [hw27, hq27]; exact below_drewN (Below.refl _ _) n27
      clear hw27 hq27 wq27
      have hB27 := hB26.trans (hb27.mono hB26.size)
      have hx27 := hx26.below hb27 (Nat.le_refl _)
      have hy27 := hy26.below hb27 (Nat.le_refl _)
      clear hB26 hx26 hy26 hb27
      go_wp2_with fail
      refine (works_any _ (hT.below hB27 (Nat.le_refl _))).mono ?_
      rintro e w28 ⟨rfl, h28⟩
      go_wp2
      go_ret
      exact ⟨rfl, hB27.trans (h28.mono hB27.size)⟩
  · have hA : hasA a r = false := by unfold hasA; rw [decide_eq_false hca]; rfl
    have hcb : ((chk a : Int) == 0) = false := by simpa using hca
    rw [hA]
    clear hA
    have hz : True := trivial
    go_wp2_with fail
    refine (count_any _ a (by omega) _ hx22).mono ?_
    rintro e w23 ⟨⟨c23, rfl, hR23⟩, hb23⟩
    have HR23 := hid' hR23
    clear hR23
    have hB23 := hB22.trans (hb23.mono hB22.size)
    have hx23 := hx22.below hb23 (Nat.le_refl _)
    have hy23 := hy22.below hb23 (Nat.le_refl _)
    clear hB22 hx22 hy22 hb23
    go_wp2_with fail
    refine (rcount_any _ a (by omega) _ (hva.below hB23 (Nat.le_refl _))).mono ?_
    rintro e w24 ⟨⟨c24, rfl, hR24⟩, hb24⟩
    obtain rfl : c23 = c24 := HR23.out.unique hR24
    clear hR24 HR23
    have hB24 := hB23.trans (hb24.mono hB23.size)
    have hx24 := hx23.below hb24 (Nat.le_refl _)
    have hy24 := hy23.below hb24 (Nat.le_refl _)
    clear hB23 hx23 hy23 hb24
    go_wp2_with fail
    refine (same_any _ _ a a (by omega) (by omega) _ hx24 (hva.below hB24 (Nat.le_refl _))).mono ?_
    rw [decide_eq_true (Eq.refl a)]
    rintro e wq25 ⟨rfl, n25, hq25⟩
    obtain ⟨w25, hw25⟩ : ∃ w25, w25 = wq25 := ⟨_, rfl⟩
    rw [← hw25]
    have hb25 : Below w24.heap.size w24 w25 := by rw [hw25, hq25]; exact below_drewN (Below.refl _ _) n25
    clear hw25 hq25 wq25
    have hB25 := hB24.trans (hb25.mono hB24.size)
    have hx25 := hx24.below hb25 (Nat.le_refl _)
    have hy25 := hy24.below hb25 (Nat.le_refl _)
    clear hB24 hx24 hy24 hb25
    go_wp2_with fail
    refine (same_any _ _ b b (by omega) (by omega) _ hy25 (hvb.below hB25 (Nat.le_refl _))).mono ?_
    rw [decide_eq_true (Eq.refl b)]
    rintro e wq26 ⟨rfl, n26, hq26⟩
    obtain ⟨w26, hw26⟩ : ∃ w26, w26 = wq26 := ⟨_, rfl⟩
    rw [← hw26]
    have hb26 : Below w25.heap.size w25 w26 := by rw [hw26, hq26]; exact below_drewN (Below.refl _ _) n26
    clear hw26 hq26 wq26
    have hB26 := hB25.trans (hb26.mono hB25.size)
    have hx26 := hx25.below hb26 (Nat.le_refl _)
    have hy26 := hy25.below hb26 (Nat.le_refl _)
    clear hB25 hx25 hy25 hb26
    go_wp2_with fail
    refine (works_any _ (hT.below hB26 (Nat.le_refl _))).mono ?_
    rintro e w27 ⟨rfl, h27⟩
    go_wp2
    go_ret
    exact ⟨rfl, hB26.trans (h27.mono hB26.size)⟩
end Go.Proofs.YtlgnnljleooenaaDoor
