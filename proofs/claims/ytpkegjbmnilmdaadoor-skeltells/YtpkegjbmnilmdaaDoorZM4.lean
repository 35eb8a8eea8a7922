/- Texts of one layer, one behind the other: KD KG KE RA. -/
import Derived.Test.YtpkegjbmnilmdaaDoorZM3
import Derived.Test.YtpkegjbmnilmdaaDoorZM2
import Derived.Test.YtpkegjbmnilmdaaDoorZU2
import Derived.Test.YtpkegjbmnilmdaaDoorZU5
import Derived.Test.YtpkegjbmnilmdaaDoorZU3
/- skel.Level. -/
namespace Go.Proofs.YtpkegjbmnilmdaaDoor.S
open Go.RowKit
set_option linter.unusedVariables false

/-! ### skel.Level -/
theorem mix_gth (g : Nat) (hg : g < 4096) (h4 : g % 4 = 0) : mix (lst g) = if (lst g).length ≤ 1 then 2 else if bits .andNot .u16 (g : Int) 1796 = 0 then 3 else if (lst g).length = 2 ∧ bits .and .u16 (g : Int) 4 ≠ 0 ∧ bits .and .u16 (g : Int) 24 = 0 then 4 else 5 := by
  have := mix_four ⟨g / 4, by omega⟩
  simp only at this
  rwa [show g / 4 * 4 = g by omega] at this
theorem lst_len (g : Nat) : (lst g).length ≤ 10 := List.length_filter_le _ nums
set_option maxRecDepth 100000 in
set_option maxHeartbeats 8000000 in
theorem level_any (s : ByteArray) (w : World) (hs : s.size ≤ 10000) :
    Calls Tryd.prog 14 #[.string s] w fun e W' => e = .returned (.int .u8 (lev (asc (U.dec (U.bn s))) (scs (U.dec (U.bn s))))) ∧ Below w.heap.size w W' := by
  have hdl := U.dec_len (U.bn s).length (U.bn s) (Nat.le_refl _) (U.bn_bytes s)
  rw [U.bn_length] at hdl
  have HDEC := hid (U.decode_any s (by omega) w)
  obtain ⟨L, hL⟩ : ∃ L, U.dec (U.bn s) = L := ⟨_, rfl⟩
  rw [hL] at HDEC hdl ⊢
  have HGA := hid (fun v W (h : U.IntsAt W v L) => gathered_any v L W (by omega) h)
  have HCH := hid (fun v W (h : U.IntsAt W v L) => containsHi_any v L W (by omega) h)
  have hg := gth_lt L
  have h4 := gth_low L
  have HLV : Hid (lev (asc L) (scs L) = if (!(L.any hi8)) = true then 1 else mix (lst (gth L))) := by show _ = _; rw [asc_hi, scs_gth]; rfl
  obtain ⟨g, hgg⟩ : ∃ g, gth L = g := ⟨_, rfl⟩
  rw [hgg] at HGA hg h4 HLV
  obtain ⟨A, hA⟩ : ∃ A, L.any hi8 = A := ⟨_, rfl⟩
  rw [hA] at HCH HLV
  have HCO := hid (count_any g hg h4)
  have HMX := hid (mix_gth g hg h4)
  have hc10 := lst_len g
  obtain ⟨R, hR⟩ : ∃ R, lev (asc L) (scs L) = R := ⟨_, rfl⟩
  rw [hR] at HLV ⊢
  obtain ⟨M, hM⟩ : ∃ M, mix (lst g) = M := ⟨_, rfl⟩
  rw [hM] at HLV HMX
  obtain ⟨c, hc⟩ : ∃ c, (lst g).length = c := ⟨_, rfl⟩
  rw [hc] at HCO HMX hc10
  obtain ⟨n, hn⟩ : ∃ n, L.length = n := ⟨_, rfl⟩
  have HN := hid hn
  rw [hn] at HDEC hdl
  clear hL hgg hA hR hM hc hn
  go_enter Tryd.func14, Tryd.ntmps14
  go_wp2_with fail
  refine HDEC.out.mono ?_
  rintro e w1 ⟨v1, rfl, r1, B1⟩
  obtain ⟨a1, c1, rfl⟩ := own_sh21 r1
  have HI := hid (U.IntsAt.own HN.out.symm r1)
  have HG1 := hid (HGA.out _ w1 HI.out)
  have HB1 := hid B1
  clear r1 B1 HDEC
  go_wp2_with fail
  refine HG1.out.mono ?_
  rintro e w2 ⟨rfl, B2⟩
  have HI2 : Hid (U.IntsAt w2 (.slice a1 n c1) L) := U.IntsAt.below B2 (Nat.le_refl _) HI.out
  have HC2 := hid (HCH.out _ w2 HI2.out)
  have HB2 := hid (HB1.out.trans (B2.mono HB1.out.size))
  clear B2 HG1 HI HI2 HGA HCH
  go_wp2_with fail
  refine HC2.out.mono ?_
  rintro e w3 ⟨rfl, hw3⟩
  obtain rfl := hw3.symm
  clear HC2
  cases A with
  | false =>
    have HV : Hid (R = 1) := HLV.out
    go_wp2
    go_ret
    exact ⟨by rw [HV.out]; rfl, HB2.out⟩
  | true =>
    have HV : Hid (R = M) := HLV.out
    clear HLV
    by_cases h1 : c ≤ 1
    · have HM : Hid (M = 2) := by show _ = _; rw [HMX.out, if_pos h1]
      have h1z : (c : Int) ≤ 1 := by omega
      clear HMX
      go_wp2_with (go_at_call 35; refine (HCO.out _).mono ?_; rintro e w4 ⟨rfl, B4⟩; have HB4 := hid (HB2.out.trans (B4.mono HB2.out.size)); clear B4)
      go_ret
      exact ⟨by rw [HV.out, HM.out]; rfl, HB4.out⟩
    · have h1z : ¬ (c : Int) ≤ 1 := by omega
      have HX := hid (HMX.out.trans (if_neg h1))
      clear HMX h1
      obtain ⟨X, hX⟩ : ∃ X, bits .andNot .u16 (g : Int) 1796 = X := ⟨_, rfl⟩
      rw [hX] at HX
      by_cases h2 : X = 0
      · have HM : Hid (M = 3) := by show _ = _; rw [HX.out, if_pos h2]
        subst h2
        clear HX
        go_wp2_with (go_at_call 35; refine (HCO.out _).mono ?_; rintro e w4 ⟨rfl, B4⟩; have HB4 := hid (HB2.out.trans (B4.mono HB2.out.size)); clear B4)
        go_ret
        exact ⟨by rw [HV.out, HM.out]; rfl, HB4.out⟩
      · have HY := hid (HX.out.trans (if_neg h2))
        have h2b : (X == 0) = false := by simpa using h2
        clear HX h2
        obtain ⟨Y, hY⟩ : ∃ Y, bits .and .u16 (g : Int) 4 = Y := ⟨_, rfl⟩
        obtain ⟨Z, hZ⟩ : ∃ Z, bits .and .u16 (g : Int) 24 = Z := ⟨_, rfl⟩
        rw [hY, hZ] at HY
        by_cases h3 : c = 2
        · subst h3
          by_cases h5 : Y = 0
          · have HM : Hid (M = 5) := by show _ = _; rw [HY.out, if_neg (fun h => h.2.1 h5)]
            have h5b : (Y != 0) = false := by simp [h5]
            clear HY h5
            go_wp2_with (first
              | (go_at_call 35; have HB4' := HB4.out; refine (HCO.out _).mono ?_; rintro e w5 ⟨rfl, B5⟩; have HB5 := hid (HB4'.trans (B5.mono HB4'.size)); clear B5 HB4')
              | (go_at_call 35; refine (HCO.out _).mono ?_; rintro e w4 ⟨rfl, B4⟩; have HB4 := hid (HB2.out.trans (B4.mono HB2.out.size)); clear B4))
            go_ret
            exact ⟨by rw [HV.out, HM.out]; rfl, HB5.out⟩
          · have h5b : (Y != 0) = true := by simpa using h5
            by_cases h6 : Z = 0
            · have HM : Hid (M = 4) := by show _ = _; rw [HY.out, if_pos ⟨rfl, h5, h6⟩]
              subst h6
              clear HY h5
              go_wp2_with (first
                | (go_at_call 35; have HB4' := HB4.out; refine (HCO.out _).mono ?_; rintro e w5 ⟨rfl, B5⟩; have HB5 := hid (HB4'.trans (B5.mono HB4'.size)); clear B5 HB4')
                | (go_at_call 35; refine (HCO.out _).mono ?_; rintro e w4 ⟨rfl, B4⟩; have HB4 := hid (HB2.out.trans (B4.mono HB2.out.size)); clear B4))
              go_ret
              exact ⟨by rw [HV.out, HM.out]; rfl, HB5.out⟩
            · have HM : Hid (M = 5) := by show _ = _; rw [HY.out, if_neg (fun h => h6 h.2.2)]
              have h6b : (Z == 0) = false := by simpa using h6
              clear HY h5 h6
              go_wp2_with (first
                | (go_at_call 35; have HB4' := HB4.out; refine (HCO.out _).mono ?_; rintro e w5 ⟨rfl, B5⟩; have HB5 := hid (HB4'.trans (B5.mono HB4'.size)); clear B5 HB4')
                | (go_at_call 35; refine (HCO.out _).mono ?_; rintro e w4 ⟨rfl, B4⟩; have HB4 := hid (HB2.out.trans (B4.mono HB2.out.size)); clear B4))
              go_ret
              exact ⟨by rw [HV.out, HM.out]; rfl, HB5.out⟩
        · have HM : Hid (M = 5) := by show _ = _; rw [HY.out, if_neg (fun h => h3 h.1)]
          have h3b : ((c : Int) == 2) = false := by simp; omega
          clear HY h3
          go_wp2_with (first
            | (go_at_call 35; have HB4' := HB4.out; refine (HCO.out _).mono ?_; rintro e w5 ⟨rfl, B5⟩; have HB5 := hid (HB4'.trans (B5.mono HB4'.size)); clear B5 HB4')
            | (go_at_call 35; refine (HCO.out _).mono ?_; rintro e w4 ⟨rfl, B4⟩; have HB4 := hid (HB2.out.trans (B4.mono HB2.out.size)); clear B4))
          go_ret
          exact ⟨by rw [HV.out, HM.out]; rfl, HB5.out⟩
end Go.Proofs.YtpkegjbmnilmdaaDoor.S
/- skel.Alike; works; what the walks want, of the program itself. -/
namespace Go.Proofs.YtpkegjbmnilmdaaDoor.S
open Go.RowKit
set_option linter.unusedVariables false

theorem encs_same {a b : List Int} (ha : ∀ c ∈ a, U.scal c = true) (hb : ∀ c ∈ b, U.scal c = true) : decide (U.encs a = U.encs b) = decide (a = b) :=
  decide_eq_decide.2 ⟨fun h => by rw [← encs_scal ha, h, encs_scal hb], fun h => by rw [h]⟩
set_option maxRecDepth 100000 in
set_option maxHeartbeats 2000000 in
theorem alike_any (s t : ByteArray) (w : World) (hs : Fit s) (ht : Fit t) : Calls Tryd.prog 13 #[.string s, .string t] w fun e W' => e = .returned (.bool (decide (sk s = sk t))) ∧ Below w.heap.size w W' := by
  have HS := hid (fun W => skel_any s W hs.1 hs.2)
  have HT := hid (fun W => skel_any t W ht.1 ht.2)
  have HE := hid (encs_same (a := sk s) (b := sk t) (skl_scal (dec_scs s)) (skl_scal (dec_scs t)))
  obtain ⟨R, hR⟩ : ∃ R, decide (sk s = sk t) = R := ⟨_, rfl⟩
  rw [hR] at HE ⊢
  clear hR hs ht
  go_enter Tryd.func13, Tryd.ntmps13
  go_wp2_with fail
  refine (HS.out _).mono ?_
  rintro e w1 ⟨⟨a, rfl, ha⟩, B1⟩
  have HA := hid ha
  have HB1 := hid B1
  clear ha B1 HS
  go_wp2_with fail
  refine (HT.out _).mono ?_
  rintro e w2 ⟨⟨b, rfl, hb⟩, B2⟩
  have HB2 := hid (HB1.out.trans (B2.mono HB1.out.size))
  have hab : (a.toList == b.toList) = R := by rw [U.str_eq_bn, HA.out, hb]; exact HE.out
  clear HA hb B2 HB1 HT
  go_wp2
  go_ret
  exact ⟨rfl, HB2.out⟩

/-! ### Some names -/
def t1 : ByteArray := ⟨#[109]⟩
def t2 : ByteArray := ⟨#[114, 110]⟩
def t3 : ByteArray := ⟨#[97]⟩
def t4 : ByteArray := ⟨#[98]⟩
def t5 : ByteArray := ⟨#[112, 208, 176, 121, 112, 97, 49]⟩
def t6 : ByteArray := ⟨#[112, 97, 121, 112, 97, 108]⟩
def t7 : ByteArray := ⟨#[97, 98, 208, 176]⟩
def t8 : ByteArray := ⟨#[97, 98, 99]⟩
theorem skel_is {s t : ByteArray} (hs : s.size ≤ 1300) (h : U.encs (sk s) = U.bn t) (W : World) : Calls Tryd.prog 12 #[.string s] W fun e W' => e = .returned (.string t) ∧ Below W.heap.size W W' :=
  (skel_any s W (fit_small hs).1 (fit_small hs).2).mono (by
    rintro e W' ⟨⟨u, rfl, hu⟩, hB⟩
    obtain rfl := U.bn_inj (hu.trans h)
    exact ⟨rfl, hB⟩)
theorem alike_is {s t : ByteArray} {b : Bool} (hs : s.size ≤ 1300) (ht : t.size ≤ 1300) (h : decide (sk s = sk t) = b) (W : World) : Calls Tryd.prog 13 #[.string s, .string t] W fun e W' => e = .returned (.bool b) ∧ Below W.heap.size W W' := by
  rw [← h]; exact alike_any s t W (fit_small hs) (fit_small ht)
theorem level_is {s : ByteArray} {n : Int} (hs : s.size ≤ 1300) (h : lev (asc (U.dec (U.bn s))) (scs (U.dec (U.bn s))) = n) (W : World) : Calls Tryd.prog 14 #[.string s] W fun e W' => e = .returned (.int .u8 n) ∧ Below W.heap.size W W' := by
  rw [← h]; exact level_any s W (by omega)
theorem of_latin {n c : Int} (h : OfR ⟨#[76, 97, 116, 105, 110]⟩ n c) : n = 2 ∧ c = 0 := by
  rcases h with ⟨i, hi, he, rfl, rfl⟩ | ⟨h, _, _⟩
  · have := names_apart ⟨i, hi⟩ 2 he
    have h2 : i = 2 := congrArg Fin.val this
    subst h2
    exact ⟨rfl, rfl⟩
  · exact absurd rfl (h 2 (by decide))
set_option maxRecDepth 100000 in
set_option maxHeartbeats 8000000 in
theorem works_any (w : World) (hN : Nms w) : Calls Tryd.prog 8 #[] w fun e W' => e = .returned (.bool true) ∧ Below w.heap.size w W' := by
  have H1 : Hid (∀ W, Calls Tryd.prog 12 #[.string ⟨#[109]⟩] W fun e W' => e = .returned (.string ⟨#[114, 110]⟩) ∧ Below W.heap.size W W') := skel_is (s := t1) (t := t2) (by decide) (by decide +kernel)
  have H2 : Hid (∀ W, Calls Tryd.prog 13 #[.string ⟨#[114, 110]⟩, .string ⟨#[109]⟩] W fun e W' => e = .returned (.bool true) ∧ Below W.heap.size W W') := alike_is (s := t2) (t := t1) (by decide) (by decide) (by decide +kernel)
  have H3 : Hid (∀ W, Calls Tryd.prog 13 #[.string ⟨#[97]⟩, .string ⟨#[98]⟩] W fun e W' => e = .returned (.bool false) ∧ Below W.heap.size W W') := alike_is (s := t3) (t := t4) (by decide) (by decide) (by decide +kernel)
  have H4 : Hid (∀ W, Calls Tryd.prog 12 #[.string ⟨#[112, 208, 176, 121, 112, 97, 49]⟩] W fun e W' => e = .returned (.string ⟨#[112, 97, 121, 112, 97, 108]⟩) ∧ Below W.heap.size W W') := skel_is (s := t5) (t := t6) (by decide) (by decide +kernel)
  have H5 : Hid (∀ W, Calls Tryd.prog 14 #[.string ⟨#[97, 98, 208, 176]⟩] W fun e W' => e = .returned (.int .u8 5) ∧ Below W.heap.size W W') := level_is (s := t7) (by decide) (by decide +kernel)
  have H6 : Hid (∀ W, Calls Tryd.prog 14 #[.string ⟨#[97, 98, 99]⟩] W fun e W' => e = .returned (.int .u8 1) ∧ Below W.heap.size W W') := level_is (s := t8) (by decide) (by decide +kernel)
  have H7 : Hid (Calls Tryd.prog 17 #[.string ⟨#[76, 97, 116, 105, 110]⟩] w fun e W' => e = .returned (.tuple #[.int .u8 2, .int .i64 0]) ∧ W' = w) := by
    refine (of_any _ w hN).mono ?_
    rintro e W' ⟨⟨n, c, rfl, h⟩, rfl⟩
    obtain ⟨rfl, rfl⟩ := of_latin h
    exact ⟨rfl, rfl⟩
  have H8 : Hid (∀ W, Below w.heap.size w W → Calls Tryd.prog 18 #[.int .u8 10] W fun e W' => e = .returned (.string ⟨#[72, 97, 110]⟩) ∧ W' = W) := fun W hB => name_any 10 (by decide) W (hN.below hB (Nat.le_refl _))
  have HB : Hid (Below w.heap.size w w) := Below.refl _ _
  have e1 := self_eq ⟨#[114, 110]⟩
  have e2 := self_eq ⟨#[112, 97, 121, 112, 97, 108]⟩
  have e3 := self_eq ⟨#[72, 97, 110]⟩
  clear hN
  go_enter Tryd.func8, Tryd.ntmps8
  go_wp2_with fail
  refine H7.out.mono ?_
  rintro e w' ⟨rfl, hw'⟩
  obtain rfl := hw'.symm
  go_wp2_with fail
  refine (H1.out _).mono ?_
  rintro e w' ⟨rfl, B⟩
  replace HB := hid (HB.out.trans (B.mono HB.out.size))
  clear B H1
  go_wp2_with fail
  refine (H2.out _).mono ?_
  rintro e w' ⟨rfl, B⟩
  replace HB := hid (HB.out.trans (B.mono HB.out.size))
  clear B H2
  go_wp2_with fail
  refine (H3.out _).mono ?_
  rintro e w' ⟨rfl, B⟩
  replace HB := hid (HB.out.trans (B.mono HB.out.size))
  clear B H3
  go_wp2_with fail
  refine (H4.out _).mono ?_
  rintro e w' ⟨rfl, B⟩
  replace HB := hid (HB.out.trans (B.mono HB.out.size))
  clear B H4
  go_wp2_with fail
  refine (H5.out _).mono ?_
  rintro e w' ⟨rfl, B⟩
  replace HB := hid (HB.out.trans (B.mono HB.out.size))
  clear B H5
  go_wp2_with fail
  refine (H6.out _).mono ?_
  rintro e w' ⟨rfl, B⟩
  replace HB := hid (HB.out.trans (B.mono HB.out.size))
  clear B H6
  go_wp2_with fail
  refine (H8.out _ HB.out).mono ?_
  rintro e w' ⟨rfl, hw'⟩
  obtain rfl := hw'.symm
  go_wp2
  go_ret
  exact ⟨rfl, HB.out⟩
theorem ctr : Ctr := ⟨fun s w h => skel_any s w h.1 h.2, alike_any, works_any⟩
end Go.Proofs.YtpkegjbmnilmdaaDoor.S
/- The iterator over the scripts of a set; skel.Scripts. -/
namespace Go.Proofs.YtpkegjbmnilmdaaDoor.S
open Go.RowKit Go.Shelf
attribute [local go_sem] Oper.semAt_some
set_option linter.unusedVariables false

/-! ### Plain -/
/-- The scripts of a number below k. -/
def ups (g k : Nat) : List Int := ((List.range k).filter (fun j => g.testBit j)).map (fun j : Nat => (j : Int))
theorem ups_yes {g k : Nat} (h : g / 2 ^ k % 2 = 1) : ups g (k + 1) = ups g k ++ [(k : Int)] := by
  unfold ups
  have hb : g.testBit k = true := by rw [Nat.testBit_eq_decide_div_mod_eq]; exact decide_eq_true h
  rw [List.range_succ, List.filter_append, List.map_append, List.filter_cons_of_pos hb]; rfl
theorem ups_no {g k : Nat} (h : g / 2 ^ k % 2 = 0) : ups g (k + 1) = ups g k := by
  unfold ups
  have hb : g.testBit k = false := by rw [Nat.testBit_eq_decide_div_mod_eq]; exact decide_eq_false (by omega)
  rw [List.range_succ, List.filter_append, List.map_append, List.filter_cons_of_neg (by rw [hb]; simp)]; simp
theorem ups_rest {g k : Nat} (h : g / 2 ^ k = 0) : ∀ d, ups g (k + d) = ups g k
  | 0 => rfl
  | d + 1 => by
    rw [← Nat.add_assoc, ups_no, ups_rest h d]
    rw [Nat.pow_add, ← Nat.div_div_eq_div_mul, h, Nat.zero_div]
theorem ups_lst : ∀ g : Fin 1024, ups (g.val * 4) 12 = lst (g.val * 4) := by decide +kernel
theorem ups_all {g k : Nat} (hg : g < 4096) (h4 : g % 4 = 0) (hk : k ≤ 12) (h : g / 2 ^ k = 0) : ups g k = lst g := by
  have e := ups_lst ⟨g / 4, by omega⟩
  simp only at e
  rw [show g / 4 * 4 = g by omega] at e
  rw [← e, ← ups_rest h (12 - k), show k + (12 - k) = 12 by omega]
theorem ups_len (g k : Nat) : (ups g k).length ≤ k := by
  unfold ups
  rw [List.length_map]
  exact Nat.le_trans (List.length_filter_le _ (List.range k)) (by rw [List.length_range]; exact Nat.le_refl _)
theorem ups_pre {g k : Nat} (hk : k ≤ 12) : ∀ d, ups g k <+: ups g (k + d)
  | 0 => List.prefix_refl _
  | d + 1 => by
    refine (ups_pre hk d).trans ?_
    rcases Nat.mod_two_eq_zero_or_one (g / 2 ^ (k + d)) with h | h
    · rw [← Nat.add_assoc, ups_no h]; exact List.prefix_refl _
    · rw [← Nat.add_assoc, ups_yes h]; exact List.prefix_append _ _
theorem ups_pre_lst {g k : Nat} (hg : g < 4096) (h4 : g % 4 = 0) (hk : k ≤ 12) : ups g k <+: lst g := by
  have e : ups g 12 = lst g := ups_all hg h4 (Nat.le_refl _) (by rw [Nat.div_eq_of_lt]; exact hg)
  rw [← e, ← show k + (12 - k) = 12 by omega]
  exact ups_pre hk _

/-! ### The iterator -/
abbrev encU (x : Int) : Array Value := #[.int .u8 x]
def KeepsSet (B : Nat) (g : Nat) (W W' : World) : Prop := Boxed W B 47 (.int .u16 g) → Boxed W' B 47 (.int .u16 g)

set_option maxRecDepth 100000 in
set_option maxHeartbeats 1000000 in
theorem iter_in (n : Nat) (hn : 1 ≤ n) (l Bs : Nat) (g : Nat) (hg : g < 4096) (h4 : g % 4 = 0) (J Jx : List Int → World → Prop)
    (hJ : ∀ (W : World) (pre : List Int) (m : Nat), J pre W → J pre (W.drewN m))
    (hY : ∀ pre x W, J pre W → pre.length < 16 → YieldAt Fence.wide (n - 1) Tryd.prog l #[.int .u8 x] W fun e W' =>
      (e = .returned (.bool true) ∧ J (pre ++ [x]) W' ∧ KeepsSet Bs g W W') ∨ (e = .returned (.bool false) ∧ Jx (pre ++ [x]) W'))
    (W : World) (hBs : Boxed W Bs 47 (.int .u16 g)) (h0 : J [] W) :
    CallsIn Fence.wide n Tryd.prog 44 #[.func (.yield l) #[] #[], .pointer (some ⟨Bs, 0, none⟩)] W fun e W' => (∃ v, e = .returned v) ∧
      ((∃ ys, ys = lst g ∧ J ys W') ∨ (∃ pre, pre <+: lst g ∧ Jx pre W')) := by
  refine callsIn_of_wp Tryd.func44 rfl trivial ?_ rfl
  simp only [Tryd.ntmps44, List.size_toArray, List.length_cons, List.length_nil, Nat.reduceAdd, Nat.reduceSub, Array.replicate_succ, Array.replicate_zero, List.push_toArray, List.append_toArray, List.nil_append, List.cons_append]
  have hcs := hBs.cell
  gi_wp2
  gi_region
  gi_wp2
  gi_loopw [3, 4] (fun v3 v4 wr => ∃ (k m : Nat), k ≤ 12 ∧ m < 4096 ∧ v3 = .int .u8 k ∧ v4 = .int .u16 m ∧ Hid (m = g / 2 ^ k) ∧ Boxed wr Bs 47 (.int .u16 g) ∧ J (ups g k) wr)
    (fun v3 _ _ => 12 - (intOf v3).toNat)
  case atStart => exact ⟨0, g, by omega, hg, rfl, rfl, by show _ = _; simp, hBs, hJ _ _ _ h0⟩
  case round =>
    obtain ⟨k, m, hk, hm4, rfl, rfl, HM, hbx, hJs⟩ := hrel
    have HALL : Hid (g / 2 ^ k = 0 → ups g k = lst g) := fun h => ups_all hg h4 hk h
    have HLT : Hid (¬ g / 2 ^ k = 0 → k < 12) := fun h => by
      by_cases h12 : k = 12
      · subst h12; exact absurd (Nat.div_eq_of_lt hg) h
      · omega
    have HYES := hid (fun (h : g / 2 ^ k % 2 = 1) => ups_yes h)
    have HNO := hid (fun (h : g / 2 ^ k % 2 = 0) => ups_no h)
    have HNX : Hid (g / 2 ^ (k + 1) = g / 2 ^ k / 2) := by show _ = _; rw [Nat.pow_succ, Nat.div_div_eq_div_mul]
    have HLN := hid (ups_len g k)
    have HPR : Hid (k < 12 → ups g (k + 1) <+: lst g) := fun h => ups_pre_lst hg h4 h
    rw [← HM.out] at HALL HLT HYES HNO HNX
    by_cases h0m : m = 0
    · subst h0m
      have HE := hid (HALL.out rfl)
      gi_wp2
      go_end0
      refine ⟨⟨_, rfl⟩, .inl ?_⟩
      rw [HE.out] at hJs
      exact hJs
    · have hk12 := HLT.out h0m
      have e0 : ((m : Int) != 0) = true := by simp; omega
      have eb : bits .and .u16 (m : Int) 1 = ((m % 2 : Nat) : Int) := by
        have := bits_mask .u16 12 (by decide) (fun n h0 h1 => by rw [wrap_u16]; omega) 1 (by decide) (m : Int) (by omega) (by omega)
        simpa using this
      rcases Nat.mod_two_eq_zero_or_one m with h2 | h2
      · have HE := hid (HNO.out h2)
        rw [h2] at eb
        gi_wp2
        refine ⟨fun f hf => (by cases hf), ?_⟩
        gi_wp2
        go_roundw
        case rel => exact ⟨k + 1, m / 2, by omega, by omega, by go_num, by go_num, HNX.out.symm, hbx, by rw [HE.out]; exact hJs⟩
        case measure => simp [intOf]; omega
      · have HE := hid (HYES.out h2)
        rw [h2] at eb
        obtain ⟨fn, tmps, assign, body, hy, hR⟩ := hY (ups g k) k wr hJs (by have := HLN.out; omega)
        gi_wp2
        refine hR.mono ?_
        rintro e W3 (⟨rfl, hJ3, hk3⟩ | ⟨rfl, hJx3⟩)
        · have hbx3 := hk3 hbx
          gi_wp2
          go_roundw
          case rel => exact ⟨k + 1, m / 2, by omega, by omega, by go_num, by go_num, HNX.out.symm, hbx3, by rw [HE.out]; exact hJ3⟩
          case measure => simp [intOf]; omega
        · gi_wp2
          refine bodyPost_ret (results_none rfl _ _ _) rfl ?_
          exact ⟨⟨_, rfl⟩, .inr ⟨ups g k ++ [(k : Int)], by rw [← HE.out]; exact HPR.out hk12, hJx3⟩⟩
set_option maxHeartbeats 1000000 in
theorem all_in (n : Nat) (g : Nat) (w : World) :
    CallsIn Fence.wide n Tryd.prog 27 #[.int .u16 g] w fun e w' => e = .returned (.func (.func 44) #[] #[.pointer (some ⟨w.heap.size, 0, none⟩)]) ∧ w' = w.alloc (.cells #[.int .u16 g] 47) := by
  refine callsIn_of_wp Tryd.func27 rfl trivial ?_ rfl
  simp only [Tryd.ntmps27, List.size_toArray, List.length_cons, List.length_nil, Nat.reduceAdd, Nat.reduceSub, Array.replicate_succ, Array.replicate_zero, List.push_toArray, List.append_toArray, List.nil_append, List.cons_append]
  gi_wp2
  go_ret
  exact ⟨rfl, rfl⟩
theorem iter_stops (n : Nat) (hn : 1 ≤ n) (Bs g : Nat) (hg : g < 4096) (h4 : g % 4 = 0) (w : World) (hc : Boxed w Bs 47 (.int .u16 g)) :
    SeqStopsK Fence.wide n Tryd.prog 44 #[.pointer (some ⟨Bs, 0, none⟩)] encU (KeepsSet Bs g) (fun ys => ys = lst g) (fun pre => pre <+: lst g) 16 w := fun l J Jx W hW hJ _ hY h0 =>
  iter_in n hn l Bs g hg h4 J Jx (fun W pre m h => hJ pre W _ none h (U.grownBy_drewN W m) (fun r e => by cases e)) hY W ((hW.block Bs hc.lt).trans hc) h0
theorem keepsSet_t {Bs g : Nat} {A B C : World} (h : KeepsSet Bs g A B) (k : KeepsSet Bs g B C) : KeepsSet Bs g A C := fun x => k (h x)
theorem keepsSet_b {Bs g : Nat} {w : World} (hB : Bs < w.heap.size) (W : World) (l : Nat) (o o' : Obj) (hl : w.heap.size ≤ l) (_ : W.heap[l]? = some o) (_ : o.isCells = false) (_ : o.isWalk = false) : KeepsSet Bs g W (W.putObj l o') :=
  fun x => (World.putObj_heap_other (by omega)).trans x

/-! ### skel.Scripts -/
set_option maxRecDepth 100000 in
set_option maxHeartbeats 4000000 in
theorem scripts_any (s : ByteArray) (w : World) (hs : s.size ≤ 10000) :
    Calls Tryd.prog 10 #[.string s] w fun e W' => ScrR (U.dec (U.bn s)) w e W' := by
  refine (callsIn_wide (n := 3)).1 ?_
  obtain ⟨i0, hi, hz0, hz1, hz2⟩ := info_parts U.Tryd.info5
  have hdl := U.dec_len (U.bn s).length (U.bn s) (Nat.le_refl _) (U.bn_bytes s)
  rw [U.bn_length] at hdl
  have HDEC := hid (U.decode_any s (by omega))
  obtain ⟨L, hL⟩ : ∃ L, U.dec (U.bn s) = L := ⟨_, rfl⟩
  rw [hL] at HDEC hdl ⊢
  have HGA := hid (fun v W (h : U.IntsAt W v L) => gathered_any v L W (by omega) h)
  have hg := gth_lt L
  have h4 := gth_low L
  have HGS : Hid (∀ e W, ((∃ v, e = .returned v ∧ W.ownsRow w.heap.size 5 1 v (lst (gth L)).length ((lst (gth L)).map (Value.int .u8))) ∧ Below w.heap.size w W) → ScrR L w e W) := by rw [← scs_gth]; exact fun e W h => h
  obtain ⟨g, hgg⟩ : ∃ g, gth L = g := ⟨_, rfl⟩
  rw [hgg] at HGA hg h4 HGS
  clear hL hgg
  refine callsIn_of_wp_marks Tryd.func10 rfl trivial ?_ rfl
  simp only [Tryd.ntmps10, List.size_toArray, List.length_cons, List.length_nil, Nat.reduceAdd, Nat.reduceSub, Array.replicate_succ, Array.replicate_zero, List.push_toArray, List.append_toArray, List.nil_append, List.cons_append]
  gi_wp2_with fail
  refine ⟨trivial, ?_⟩
  have bO := Boxed.new w 24 (.slice none 0 0)
  have hBa : Below w.heap.size w (w.alloc (.cells #[.slice none 0 0] 24)) := (Below.refl _ w).alloc (Nat.le_refl _) _
  obtain ⟨wa, hwa⟩ : ∃ wa, w.alloc (.cells #[.slice none 0 0] 24) = wa := ⟨_, rfl⟩
  have hsa : wa.heap.size = w.heap.size + 1 := by rw [← hwa]; simp
  rw [hwa] at bO hBa ⊢
  clear hwa
  refine (callsIn_wide.2 (HDEC.out wa)).mono ?_
  rintro e w1 ⟨v1, rfl, r1, B1⟩
  gi_wp2_with fail
  refine ⟨trivial, ?_⟩
  refine (callsIn_wide.2 (HGA.out v1 w1 (U.IntsAt.own rfl r1))).mono ?_
  rintro e w2 ⟨rfl, B2⟩
  have B12 := B1.trans (B2.mono B1.size)
  have hB2 := hBa.trans (B12.mono (by omega))
  have bO2 : Boxed w2 w.heap.size 24 (.slice none 0 0) := (B12.block w.heap.size (by omega)).trans bO
  gi_wp2_with fail
  refine ⟨trivial, ?_⟩
  refine (all_in _ g _).mono ?_
  rintro e w' ⟨rfl, rfl⟩
  gi_wp2_with fail
  have bN := Boxed.new w2 47 (.int .u16 g)
  have hB0 : Below w.heap.size w (w2.alloc (.cells #[.int .u16 g] 47)) := hB2.alloc hB2.size _
  have z2 := hB2.size
  have zlt : w.heap.size < w2.heap.size := by have := B12.size; omega
  refine wpIn_rangeFunc_ownG rfl (by omega) (gf := 44) (lb := #[.pointer (some ⟨w2.heap.size, 0, none⟩)]) rfl trivial (enters_of Tryd.func44 (by kernel_rfl) rfl)
    (iter_stops 2 (by omega) w2.heap.size g hg h4 _ bN) keepsSet_t (keepsSet_b (by simp)) (Below.refl _ _) (fun _ => rfl)
    (fun pre W => ((∃ v, Boxed W w.heap.size 24 v ∧ W.ownsRow w.heap.size 5 1 v pre.length (pre.map (Value.int .u8)) ∧ True) ∧ Boxed W w2.heap.size 47 (.int .u16 g)) ∧ Below w.heap.size w W)
    (fun _ _ _ => False)
    (OwnFrom.and (OwnFrom.and (Own.from (holdsRow_own w.heap.size w.heap.size 24 5 1 (fun pre : List Int => pre.length) (fun pre => pre.map (Value.int .u8)) (fun pre v => True)) _) (Own.from (boxed_own _ _ _) _)) (ownFrom_below (Nat.le_refl _) (by simp; omega)))
    (fun _ _ _ _ _ hs _ _ => hs)
    ⟨⟨⟨_, bO2.alloc _, World.ownsRow_nil _ _ _ _, trivial⟩, bN⟩, hB0⟩
    (fun x => { tmps := #[.string s, undef, .slice none 0 0, .pointer (some ⟨w.heap.size, 0, none⟩), .int .u8 x, .string s, v1, .int .u16 g, .func (.func 44) #[] #[.pointer (some ⟨w2.heap.size, 0, none⟩)], .int .u8 x, undef, undef, undef, undef, undef], defers := [] }) ?assign ?body ?done ?stop
  case assign =>
    intro l x W K hK
    gi_wp2
    exact hK
  case body =>
    rintro l pre x W ⟨⟨⟨v, hv, hrow, _⟩, hbs⟩, hB⟩ hlt
    have hc := hv.cell
    gi_wp2_with (gi_at_builtin; refine wpListIn_append_own _ rfl _ _ 24 rfl w.heap.size 5 i0 (.int .u8 0) 1 1 Tryd.underlying24 hi hz0 hz1 hz2 rfl (by decide) _ _ _ rfl (hrow.alloc _) ⟨W.heap.size, 0, none⟩ 1 1 [.int .u8 x] rfl rfl (cell_one_new _ _ _) (by simp [Value.oneCell']) (by unfold maxLen; omega) (by omega) (by have := hB.size; simp; omega) ?_; intro v' w1 hown' hgrow _; obtain ⟨g', cap', rfl⟩ := ownsRow_succ hown'; obtain ⟨hv1, hv2, hr2, hk2, hb2⟩ := hv.appended (by decide) hrow hB.size (Nat.le_refl _) hown' hgrow; have hc1 := hv1.cell; have hf1 := hv1.frozen)
    have hbs1 := ((hbs.alloc _).kept hgrow (hbs.not_row (by decide) hrow)).other (B' := w.heap.size) (by omega) (.slice (some ⟨g', 0, none⟩) (pre.length + 1) cap')
    exact ⟨hk2.from _, fun _ => hbs1, ⟨⟨_, hv2, by simpa using hr2, trivial⟩, hbs1⟩, hB.trans hb2⟩
  case done =>
    rintro D ys W hD rfl ⟨⟨⟨v, hv, hrow, _⟩, hbs⟩, hB⟩ hK
    have hc := hv.cell
    gi_wp2
    refine ⟨by simp, .inl ⟨_, _, rfl, run_takeDeferred hK, ?_⟩⟩
    exact ⟨_, results_tmp rfl _ _ _, HGS.out _ _ ⟨⟨v, rfl, ownsRow_putObj hrow _ hK rfl⟩, hB.trans (belowK_b (w := w) (Nat.le_refl _) W D _ _ (by simp at hD; omega) hK rfl rfl)⟩⟩
  case stop =>
    rintro D c pre W _ _ h _
    exact h.elim
end Go.Proofs.YtpkegjbmnilmdaaDoor.S
/- SkelLevels: the document's Valid; what the walk wants of its parts. -/
namespace Go.Proofs.YtpkegjbmnilmdaaDoor.U
open Go.RowKit
set_option linter.unusedVariables false
set_option maxRecDepth 100000 in
set_option maxHeartbeats 2000000 in
theorem refValid_any (s : ByteArray) (hs : s.size ≤ 17179869184) (w : World) :
    Calls Tryd.prog 20 #[.string s] w fun e W' => e = .returned (.bool (val (bn s))) ∧ Below w.heap.size w W' := by
  go_enter Tryd.func20, Tryd.ntmps20
  go_wp2_with fail
  go_loopw [0] (fun sv wr => ∃ (t : ByteArray), sv = .string t ∧ t.size ≤ s.size ∧ Hid (val (bn s) = val (bn t)) ∧ Below w.heap.size w wr) (fun sv _ => strLen sv)
  case atStart => exact ⟨s, rfl, Nat.le_refl _, rfl, Below.refl _ _⟩
  case round =>
    obtain ⟨t, rfl, hsz, HD, hB⟩ := hrel
    by_cases hp : 0 < t.size
    · have he : t.toList.isEmpty = false := isEmpty_false t hp
      have hnn := nx_n (bn t) (bn_ne t hp)
      rw [bn_length] at hnn
      have HC : Hid (val (bn t) = ((nx (bn t)).2.2 && val (bn (t.extract (nx (bn t)).2.1 t.size)))) := by
        show _ = _
        rw [val_cons _ (bn_ne t hp) (bn_bytes t), bn_extract]
      go_wp2_with fail
      refine (refNext_any _ _ (by omega)).mono ?_
      generalize nx (bn t) = x at hnn HC ⊢
      obtain ⟨r, n, b⟩ := x
      simp only at hnn HC ⊢
      rintro e w1 ⟨rfl, hB1⟩
      have B1 := hB.trans (hB1.mono hB.size)
      clear hB1 hB
      cases b with
      | false =>
        go_wp2
        go_ret
        exact ⟨ret_bool (by rw [HD.out, HC.out]; rfl), B1⟩
      | true =>
        go_wp2
        go_roundw
        case rel => exact ⟨t.extract n t.size, rfl, by simp; omega, by show _ = _; rw [HD.out, HC.out]; rfl, B1⟩
        case measure => simp [strLen]; omega
    · have he : t.toList.isEmpty = true := isEmpty_true t (by omega)
      have HE : Hid (val (bn s) = true) := by
        show _ = _
        rw [HD.out, List.length_eq_zero_iff.1 (show (bn t).length = 0 by rw [bn_length]; omega), val_nil]
      go_wp2
      go_ret
      exact ⟨ret_bool (by rw [HE.out]), hB⟩
end Go.Proofs.YtpkegjbmnilmdaaDoor.U
namespace Go.Proofs.YtpkegjbmnilmdaaDoor.S
open Go.RowKit
set_option linter.unusedVariables false
/-- A slice of bytes that may be appended. -/
def SrcU (W : World) (v : Value) (zs : List Int) : Prop := (v = .slice none 0 0 ∧ zs = []) ∨ ∃ ad c, v = .slice (some ad) zs.length c ∧ ∀ j, j < zs.length → W.cell? (ad.add j) = some (.int .u8 (zs[j]?.getD 0))
theorem wpList_append_us {w : World} {ops : Array Oper} {rest : List Oper} {o : Oper} {a : Act} {Q : Exit → Act → World → Prop} (hgd : o.guard = none) (s x : Operand)
    (ho : o.op = .call { callee := .builtin .append, args := #[s, x], argTypes := #[24, 24] }) (base : Nat) (v : Value) (n : Nat) (ys : List Int) (hs : a.eval s = v) (hown : w.ownsRow base 5 1 v n (ys.map (Value.int .u8)))
    (u : Value) (zs : List Int) (hx : a.eval x = u) (hu : SrcU w u zs) (hbd : n + zs.length ≤ 17179869184) (hbase : base ≤ w.heap.size)
    (h : ∀ v' w', w'.ownsRow base 5 1 v' (n + zs.length) ((ys ++ zs).map (Value.int .u8)) → w.grownBy w' v.ownBlock → wpList Tryd.prog ops Q rest (a.put o.dst v') w') : wpList Tryd.prog ops Q (o :: rest) a w := by
  obtain ⟨i0, hi, hz0, hz1, hz2⟩ := info_parts U.Tryd.info5
  rcases hu with ⟨rfl, rfl⟩ | ⟨ad, c, rfl, hc⟩
  · exact wpList_append_own_none hgd s x 24 ho base 5 i0 1 Tryd.underlying24 hi v n _ hs hown hx (h v w (by simpa using hown) ⟨rfl, rfl, rfl, Nat.le_refl _, fun _ _ _ => rfl⟩)
  · refine wpList_append_own w hgd s x 24 ho base 5 i0 (.int .u8 0) 1 1 Tryd.underlying24 hi hz0 hz1 hz2 rfl (by decide) v n _ hs hown ad zs.length c (zs.map (Value.int .u8)) hx (by simp) ?_ ?_ (by unfold maxLen; omega) (by omega) hbase (fun v' w' h1 h2 _ => h v' w' (by simpa using h1) h2)
    · intro j y hj
      rw [List.getElem?_map] at hj
      obtain ⟨c', hc', rfl⟩ := Option.map_eq_some_iff.1 hj
      have hj' := (List.getElem?_eq_some_iff.1 hc').1
      rw [hc j hj', hc']; rfl
    · intro y hy
      obtain ⟨c', _, rfl⟩ := List.mem_map.1 hy
      rfl
/-- A row of bytes that is the call's own may be appended. -/
theorem src_own {W : World} {base n : Nat} {v : Value} {zs : List Int} (hn : n = zs.length) (h : W.ownsRow base 5 1 v n (zs.map (Value.int .u8))) : SrcU W v zs := by
  subst hn
  rcases h.2 with ⟨rfl, h0⟩ | ⟨g, cap, cur, rfl, hg, h3, h4⟩
  · exact .inl ⟨rfl, List.length_eq_zero_iff.1 h0⟩
  · refine .inr ⟨⟨g, 0, none⟩, cap, rfl, fun j hj => ?_⟩
    rw [U.addr_add0, h.cellAt j (by omega), List.getElem?_map, List.getElem?_eq_getElem hj]; rfl
/-- Its cells. -/
theorem own_cells {W : World} {base n : Nat} {v : Value} {zs : List Int} (hn : n = zs.length) (h : W.ownsRow base 5 1 v n (zs.map (Value.int .u8))) : ∃ a c, v = .slice a n c ∧ (0 < n → ∃ b, base ≤ b ∧ a = some ⟨b, 0, none⟩ ∧ ∀ j, j < n → W.cell? ⟨b, j, none⟩ = some (.int .u8 (zs[j]?.getD 0))) := by
  rcases h.2 with ⟨rfl, h0⟩ | ⟨g, cap, cur, rfl, hg, h3, h4⟩
  · exact ⟨none, 0, by rw [h0], fun h => by omega⟩
  · refine ⟨_, cap, rfl, fun _ => ⟨g, hg, rfl, fun j hj => ?_⟩⟩
    rw [h.cellAt j (by omega), List.getElem?_map, List.getElem?_eq_getElem (by omega)]; rfl
end Go.Proofs.YtpkegjbmnilmdaaDoor.S
