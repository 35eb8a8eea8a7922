/- Texts of one layer, one behind the other: LM LN. -/
import Derived.Test.YtdncaehajhmcoaaGreatZL4
import Derived.Test.YtdncaehajhmcoaaGreatZN11
import Derived.Deep.Cut
import Derived.Deep.CutRange
/- The document's Joins and Bidi. -/
namespace Go.Proofs.YtdncaehajhmcoaaGreat.L
open Go.RowKit
set_option linter.unusedVariables false

set_option maxRecDepth 100000 in
set_option maxHeartbeats 4000000 in
theorem rjoins_any (v : Value) (L : List Int) (w : World) (hlen : L.length ≤ 100000) (hv : U.IntsAt w v L) :
    Calls Tryz.prog 97 #[v] w fun e W' => e = .returned (.bool (jok L)) ∧ Below w.heap.size w W' := by
  have HV := hid hv
  obtain ⟨a, c, rfl, hf⟩ := ints_form hv
  have HF := hid hf
  obtain ⟨n, hn⟩ : ∃ n, L.length = n := ⟨_, rfl⟩
  rw [hn] at HV HF hlen ⊢
  have HN := hid hn
  have HNO := hid (fun i h1 h2 => jok_no L i h1 h2)
  have HYES := hid (jok_yes L)
  rw [hn] at HNO HYES
  obtain ⟨R, hR⟩ : ∃ R, jok L = R := ⟨_, rfl⟩
  rw [hR] at HNO HYES ⊢
  clear hv hf hn hR
  go_enter Tryz.func97, Tryz.ntmps97
  go_wp2_with fail
  go_loopw [3] (fun v3 wr => ∃ k : Nat, k ≤ n ∧ v3 = .int .i64 k ∧ Hid (∀ j, j < k → jat L j = true) ∧ Hid (Below w.heap.size w wr)) (fun v3 _ => n - (intOf v3).toNat)
  case atStart => exact ⟨0, Nat.zero_le _, rfl, (fun j hj => by omega), Below.refl _ _⟩
  case round =>
    obtain ⟨k, hk, rfl, HA, HB⟩ := hrel
    by_cases hlt : k < n
    · obtain ⟨b, off, rfl, hck⟩ := cell_at HF.out HB.out k hlt
      have HJ : Hid (jat L k = (!(decide (L[k]?.getD 0 = 8204) || decide (L[k]?.getD 0 = 8205)) || may L k)) := rfl
      have HM := hid (rmay_any _ L k wr (by rw [HN.out]; exact hlt) (by rw [HN.out]; exact hlen) (HV.out.below HB.out (Nat.le_refl _)))
      have HS : Hid (jat L k = true → ∀ j, j < k + 1 → jat L j = true) := fun h j hj => by
        by_cases e : j = k
        · rw [e]; exact h
        · exact HA.out j (by omega)
      have HX := hid (HNO.out k hlt)
      obtain ⟨x, hx⟩ : ∃ x, L[k]?.getD 0 = x := ⟨_, rfl⟩
      rw [hx] at hck HJ
      obtain ⟨m, hm⟩ : ∃ m, may L k = m := ⟨_, rfl⟩
      rw [hm] at HM HJ
      clear hx hm
      by_cases hq : x = 8204 ∨ x = 8205
      · have HJ2 : Hid (jat L k = m) := by
          show _ = _
          rw [HJ.out]
          rcases hq with h | h <;> simp [h]
        cases m with
        | true =>
          rcases hq with rfl | rfl
          all_goals
            go_wp2_with (go_at_call 149; refine HM.out.mono ?_; rintro e w1 ⟨rfl, B1⟩)
            go_roundw
            case rel => exact ⟨k + 1, by omega, by go_num, HS.out HJ2.out, HB.out.trans (B1.mono HB.out.size)⟩
            case measure => simp [intOf]; omega
        | false =>
          have HR := hid (HX.out HJ2.out)
          rcases hq with rfl | rfl
          all_goals
            go_wp2_with (go_at_call 149; refine HM.out.mono ?_; rintro e w1 ⟨rfl, B1⟩)
            go_ret
            exact ⟨by rw [HR.out]; rfl, HB.out.trans (B1.mono HB.out.size)⟩
      · have HJ2 : Hid (jat L k = true) := by
          show _ = _
          rw [HJ.out, decide_eq_false (fun h => hq (.inl h)), decide_eq_false (fun h => hq (.inr h))]; rfl
        have h1 : (x == 8204) = false := by simp; omega
        have h2 : (x == 8205) = false := by simp; omega
        have h3 : ¬ x = 8204 := fun h => hq (.inl h)
        have h4 : ¬ x = 8205 := fun h => hq (.inr h)
        clear hq
        go_wp2
        go_roundw
        case rel => exact ⟨k + 1, by omega, by go_num, HS.out HJ2.out, HB⟩
        case measure => simp [intOf]; omega
    · have HR := hid (HYES.out (fun j hj => HA.out j (by omega)))
      go_wp2
      go_ret
      exact ⟨by rw [HR.out]; rfl, HB.out⟩

theorem has_snoc (l : List Int) (r b : Int) : has (l ++ [r]) b = (has l b || decide (bid r = b)) := by simp [has]
theorem lastB_snoc (l : List Int) (r : Int) : lastB (l ++ [r]) = if bid r = 8 then lastB l else bid r := by
  unfold lastB lastN
  rw [List.reverse_append]
  show Option.getD (Option.map bid (List.find? _ (r :: l.reverse))) 8 = _
  by_cases h : bid r = 8
  · rw [List.find?_cons_of_neg (by simp [h]), if_pos h]
  · rw [List.find?_cons_of_pos (by simp [h]), if_neg h]; rfl
def bidiR (z : Int) (lf en an rt : Bool) (la : Int) : Bool :=
  if z = 2 ∨ z = 3 then !lf && !(en && an) && (decide (la = 2) || decide (la = 3) || decide (la = 4) || decide (la = 7))
  else if z = 1 then !rt && !an && (decide (la = 1) || decide (la = 4)) else false
theorem bidiR_eq (L : List Int) (h : 0 < L.length) : bidiOk L = bidiR (bid (L[0]?.getD 0)) (has L 1) (has L 4) (has L 7) (has L 2 || has L 3) (lastB L) := by
  match L, h with
  | r :: t, _ =>
    rw [bidiOk]
    unfold bidiR
    show _ = if bid r = 2 ∨ bid r = 3 then _ else if bid r = 1 then _ else _
    rw [Bool.not_or]
theorem beq_dec (a b : Int) : (a == b) = decide (a = b) := by
  rw [Bool.eq_iff_iff]; simp
set_option maxRecDepth 100000 in
set_option maxHeartbeats 16000000 in
theorem rBidi_any (v : Value) (L : List Int) (w : World) (hlen : L.length ≤ 100000) (hv : U.IntsAt w v L) :
    Calls Tryz.prog 38 #[v] w fun e W' => e = .returned (.bool (bidiOk L)) ∧ Below w.heap.size w W' := by
  obtain ⟨a, c, rfl, hf⟩ := ints_form hv
  by_cases h0 : L.length = 0
  · have e : L = [] := List.length_eq_zero_iff.1 h0
    subst e
    clear hf hv hlen
    go_enter Tryz.func38, Tryz.ntmps38
    go_wp2
    go_ret
    exact ⟨rfl, Below.refl _ _⟩
  · have HE := hid (bidiR_eq L (by omega))
    have HF := hid hf
    obtain ⟨b, off, rfl, -⟩ := hf (by omega)
    obtain ⟨R, hR⟩ : ∃ R, bidiOk L = R := ⟨_, rfl⟩
    rw [hR] at HE ⊢
    obtain ⟨n, hn⟩ : ∃ n, L.length = n := ⟨_, rfl⟩
    have HN := hid hn
    rw [hn] at HF h0 hlen ⊢
    have h0z : ¬ ((n : Int) = 0) := by omega
    have h0b : ((n : Int) == 0) = false := by simpa using h0z
    clear hR hn hv hf
    go_enter Tryz.func38, Tryz.ntmps38
    go_wp2_with fail
    go_loopw [3, 4, 5, 6, 7, 8] (fun v3 v4 v5 v6 v7 v8 wr => ∃ k : Nat, k ≤ n ∧ v3 = .int .u8 (lastB (L.take k)) ∧ v4 = .bool (has (L.take k) 4) ∧ v5 = .bool (has (L.take k) 7) ∧ v6 = .bool (has (L.take k) 1) ∧ v7 = .bool (has (L.take k) 2 || has (L.take k) 3) ∧ v8 = .int .i64 k ∧ Hid (Below w.heap.size w wr)) (fun _ _ _ _ _ v8 _ => n - (intOf v8).toNat)
    case atStart => exact ⟨0, Nat.zero_le _, rfl, rfl, rfl, rfl, rfl, rfl, Below.refl _ _⟩
    case round =>
      obtain ⟨k, hk, rfl, rfl, rfl, rfl, rfl, rfl, HB⟩ := hrel
      by_cases hlt : k < n
      · obtain ⟨b1, off1, hbe, hck⟩ := cell_at HF.out HB.out k hlt
        cases hbe
        have HT := hid (take_one L k (by rw [HN.out]; exact hlt))
        have HC := hid (rbidi_any (L[k]?.getD 0) wr)
        have HL := hid (lastB_snoc (L.take k) (L[k]?.getD 0))
        have HH := hid (fun t => has_snoc (L.take k) (L[k]?.getD 0) t)
        rw [← HT.out] at HL HH
        obtain ⟨z, hz⟩ : ∃ z, bid (L[k]?.getD 0) = z := ⟨_, rfl⟩
        rw [hz] at HC HL HH
        obtain ⟨x, hx⟩ : ∃ x, L[k]?.getD 0 = x := ⟨_, rfl⟩
        rw [hx] at hck HC
        obtain ⟨la, hla⟩ : ∃ la, lastB (L.take k) = la := ⟨_, rfl⟩
        obtain ⟨en, hen⟩ : ∃ en, has (L.take k) 4 = en := ⟨_, rfl⟩
        obtain ⟨an, han⟩ : ∃ an, has (L.take k) 7 = an := ⟨_, rfl⟩
        obtain ⟨lf, hlf⟩ : ∃ lf, has (L.take k) 1 = lf := ⟨_, rfl⟩
        obtain ⟨rt, hrt⟩ : ∃ rt, (has (L.take k) 2 || has (L.take k) 3) = rt := ⟨_, rfl⟩
        have H4 : Hid (has (L.take (k + 1)) 4 = (en || z == 4)) := by show _ = _; rw [HH.out 4, hen, beq_dec]
        have H7 : Hid (has (L.take (k + 1)) 7 = (an || z == 7)) := by show _ = _; rw [HH.out 7, han, beq_dec]
        have H1 : Hid (has (L.take (k + 1)) 1 = (lf || z == 1)) := by show _ = _; rw [HH.out 1, hlf, beq_dec]
        have H23 : Hid ((has (L.take (k + 1)) 2 || has (L.take (k + 1)) 3) = (rt || z == 2 || z == 3)) := by
          show _ = _
          rw [HH.out 2, HH.out 3, ← hrt, beq_dec, beq_dec]
          cases has (L.take k) 2 <;> cases has (L.take k) 3 <;> simp
        have HLA : Hid (lastB (L.take (k + 1)) = if z = 8 then la else z) := by show _ = _; rw [HL.out, hla]
        rw [hla, hen, han, hlf, hrt]
        clear hla hen han hlf hrt hz hx HT HL HH
        go_upto_region 9 with (go_at_call 48; refine HC.out.mono ?_; rintro e w1 ⟨rfl, B1⟩)
        have HB1 := hid (HB.out.trans (B1.mono HB.out.size))
        clear B1 HB HC hck
        go_cut [4] from 24 to 28 (fun v4 wc => v4 = .bool (en || z == 4) ∧ w1 = wc)
        case first =>
          cases en
          · go_wp2
            go_meet
            case rel => exact ⟨rfl, rfl⟩
          · go_wp2
            go_meet
            case rel => exact ⟨rfl, rfl⟩
        case rest =>
          obtain ⟨rfl, rfl⟩ := hcut
          obtain ⟨E4, hE4⟩ : ∃ E4, (en || z == 4) = E4 := ⟨_, rfl⟩
          rw [hE4] at H4 ⊢
          clear hE4
          go_upto_region 10 with fail
          go_cut [5] from 29 to 33 (fun v wc => v = .bool (an || z == 7) ∧ w1 = wc)
          case first =>
            cases an
            · go_wp2
              go_meet
              case rel => exact ⟨rfl, rfl⟩
            · go_wp2
              go_meet
              case rel => exact ⟨rfl, rfl⟩
          case rest =>
            obtain ⟨rfl, rfl⟩ := hcut
            obtain ⟨E7, hE7⟩ : ∃ E7, (an || z == 7) = E7 := ⟨_, rfl⟩
            rw [hE7] at H7 ⊢
            clear hE7
            go_upto_region 11 with fail
            go_cut [6] from 34 to 38 (fun v wc => v = .bool (lf || z == 1) ∧ w1 = wc)
            case first =>
              cases lf
              · go_wp2
                go_meet
                case rel => exact ⟨rfl, rfl⟩
              · go_wp2
                go_meet
                case rel => exact ⟨rfl, rfl⟩
            case rest =>
              obtain ⟨rfl, rfl⟩ := hcut
              obtain ⟨E1, hE1⟩ : ∃ E1, (lf || z == 1) = E1 := ⟨_, rfl⟩
              rw [hE1] at H1 ⊢
              clear hE1
              go_upto_region 12 with fail
              go_cut [7] from 39 to 47 (fun v wc => v = .bool (rt || z == 2 || z == 3) ∧ w1 = wc)
              case first =>
                cases rt
                · by_cases h2 : z = 2
                  · have e2 : (z == 2) = true := by simpa using h2
                    clear h2
                    go_wp2
                    go_meet
                    case rel => exact ⟨by rw [e2]; rfl, rfl⟩
                  · have e2 : (z == 2) = false := by simpa using h2
                    clear h2
                    go_wp2
                    go_meet
                    case rel => exact ⟨by rw [e2]; rfl, rfl⟩
                · go_wp2
                  go_meet
                  case rel => exact ⟨rfl, rfl⟩
              case rest =>
                obtain ⟨rfl, rfl⟩ := hcut
                obtain ⟨E2, hE2⟩ : ∃ E2, (rt || z == 2 || z == 3) = E2 := ⟨_, rfl⟩
                rw [hE2] at H23 ⊢
                clear hE2
                by_cases h8 : z = 8
                · have e8 : (z != 8) = false := by simp [h8]
                  have HL8 : Hid (lastB (L.take (k + 1)) = la) := by show _ = _; rw [HLA.out, if_pos h8]
                  clear h8
                  go_wp2
                  go_roundw
                  case rel => exact ⟨k + 1, by omega, by rw [HL8.out], by rw [H4.out], by rw [H7.out], by rw [H1.out], by rw [H23.out], by go_num, HB1⟩
                  case measure => simp [intOf]; omega
                · have e8 : (z != 8) = true := by simpa using h8
                  have HL8 : Hid (lastB (L.take (k + 1)) = z) := by show _ = _; rw [HLA.out, if_neg h8]
                  clear h8
                  go_wp2
                  go_roundw
                  case rel => exact ⟨k + 1, by omega, by rw [HL8.out], by rw [H4.out], by rw [H7.out], by rw [H1.out], by rw [H23.out], by go_num, HB1⟩
                  case measure => simp [intOf]; omega
      · have hkk : L.take k = L := List.take_of_length_le (by rw [HN.out]; omega)
        rw [hkk]
        obtain ⟨b1, off1, hbe, hck⟩ := cell_at HF.out HB.out 0 (by omega)
        cases hbe
        rw [Nat.add_zero] at hck
        have HC := hid (rbidi_any (L[0]?.getD 0) wr)
        obtain ⟨z, hz⟩ : ∃ z, bid (L[0]?.getD 0) = z := ⟨_, rfl⟩
        rw [hz] at HC HE
        obtain ⟨x, hx⟩ : ∃ x, L[0]?.getD 0 = x := ⟨_, rfl⟩
        rw [hx] at hck HC
        obtain ⟨la, hla⟩ : ∃ la, lastB L = la := ⟨_, rfl⟩
        obtain ⟨en, hen⟩ : ∃ en, has L 4 = en := ⟨_, rfl⟩
        obtain ⟨an, han⟩ : ∃ an, has L 7 = an := ⟨_, rfl⟩
        obtain ⟨lf, hlf⟩ : ∃ lf, has L 1 = lf := ⟨_, rfl⟩
        obtain ⟨rt, hrt⟩ : ∃ rt, (has L 2 || has L 3) = rt := ⟨_, rfl⟩
        rw [hla, hen, han, hlf, hrt] at HE ⊢
        clear hla hen han hlf hrt hz hx hkk
        have hnz : (0 : Int) < (n : Int) := by omega
        go_wp2_with (go_at_call 48; refine HC.out.mono ?_; rintro e w1 ⟨rfl, B1⟩)
        all_goals (go_ret; refine ⟨?_, HB.out.trans (B1.mono HB.out.size)⟩; rw [HE.out]; unfold bidiR; first | (simp_all; done) | (simp_all; rw [Bool.eq_iff_iff]; simp; done) | (simp_all; rw [Bool.eq_iff_iff]; simp; omega))
end Go.Proofs.YtdncaehajhmcoaaGreat.L
/- The document's Faults. -/
namespace Go.Proofs.YtdncaehajhmcoaaGreat.L
open Go.RowKit
set_option linter.unusedVariables false

theorem rbit_b (b : Bool) (v : Int) (w : World) (hv : 0 ≤ v) :
    Calls Tryz.prog 96 #[.bool b, .int .u16 v] w fun e W' => ∃ B, e = .returned (.int .u16 B) ∧ 0 ≤ B ∧ B ≤ v ∧ Hid (B = bt b v) ∧ W' = w :=
  (rbit_any b v w).mono fun e W' ⟨he, hw⟩ => ⟨bt b v, he, by unfold bt; split <;> omega, by unfold bt; split <;> omega, rfl, hw⟩
theorem any_snoc (p : Int → Bool) (l : List Int) (r : Int) : (l ++ [r]).any p = (l.any p || p r) := by simp
theorem flt_eq (L : List Int) (hy : Bool) (h : ¬ L.length = 0) : flt L hy = bt (!decide (N.nfcI L = L)) 1 + bt (hy && decide (4 ≤ L.length) && decide (L[2]?.getD 0 = 45) && decide (L[3]?.getD 0 = 45)) 2 + bt (hy && (decide (L[0]?.getD 0 = 45) || decide (L[L.length - 1]?.getD 0 = 45))) 4 +
    (bt (pre4 L) 8 + bt (L.any (fun r => decide (r = 46))) 16) + bt (mrk (L[0]?.getD 0)) 32 + (bt (L.any nval) 64 + bt (!jok L) 128) := by
  unfold flt qs
  rw [if_neg h]
  simp only [sm, Nat.reduceAdd, Nat.zero_add, Int.reducePow]
  omega
set_option maxRecDepth 100000 in
set_option maxHeartbeats 16000000 in
theorem rfaults_any (v : Value) (hy : Bool) (L : List Int) (w : World) (hlen : L.length ≤ 10000) (hv : U.IntsAt w v L) :
    Calls Tryz.prog 69 #[v, .bool hy] w fun e W' => e = .returned (.int .u16 (flt L hy)) ∧ Below w.heap.size w W' := by
  have HV := hid hv
  obtain ⟨a, c, rfl, hf⟩ := ints_form hv
  by_cases h0 : L.length = 0
  · unfold flt
    rw [if_pos h0, h0]
    clear hlen h0 hf hv HV
    go_enter Tryz.func69, Tryz.ntmps69
    go_wp2
    go_ret
    exact ⟨rfl, Below.refl _ _⟩
  · have HE := hid (flt_eq L hy h0)
    have HF := hid hf
    obtain ⟨b, off, rfl, -⟩ := hf (by omega)
    obtain ⟨R, hR⟩ : ∃ R, flt L hy = R := ⟨_, rfl⟩
    rw [hR] at HE ⊢
    obtain ⟨n, hn⟩ : ∃ n, L.length = n := ⟨_, rfl⟩
    have HN := hid hn
    rw [hn] at HF HV HE h0 hlen ⊢
    have h0z : ¬ ((n : Int) = 0) := by omega
    have h0b : ((n : Int) == 0) = false := by simpa using h0z
    clear hR hn hv hf
    go_enter Tryz.func69, Tryz.ntmps69
    go_wp2_with fail
    go_loopw [6, 7, 8] (fun v6 v7 v8 wr => ∃ k : Nat, k ≤ n ∧ v6 = .bool ((L.take k).any fun r => decide (r = 46)) ∧ v7 = .bool ((L.take k).any nval) ∧ v8 = .int .i64 k ∧ Hid (Below w.heap.size w wr)) (fun _ _ v8 _ => n - (intOf v8).toNat)
    case atStart => exact ⟨0, Nat.zero_le _, rfl, rfl, rfl, Below.refl _ _⟩
    case round =>
      obtain ⟨k, hk, rfl, rfl, rfl, HB⟩ := hrel
      by_cases hlt : k < n
      · obtain ⟨b1, off1, hbe, hck⟩ := cell_at HF.out HB.out k hlt
        cases hbe
        have HCK := hid (fun W (h : Below w.heap.size w W) => cell_at HF.out h k hlt)
        have HT := hid (take_one L k (by rw [HN.out]; exact hlt))
        have HD := hid (any_snoc (fun r => decide (r = 46)) (L.take k) (L[k]?.getD 0))
        have HV2 := hid (any_snoc nval (L.take k) (L[k]?.getD 0))
        rw [← HT.out] at HD HV2
        obtain ⟨x0, x1, x3, x4, x5, x6, hfa⟩ := rfind_c (L[k]?.getD 0)
        have hfla := fld2 x0 x1 (sts (L[k]?.getD 0)) x3 x4 x5 x6 (bid (L[k]?.getD 0)) (cls (L[k]?.getD 0)) (joi (L[k]?.getD 0)) (mrk (L[k]?.getD 0))
        have HNV : Hid (nval (L[k]?.getD 0) = (decide (sts (L[k]?.getD 0) ≠ 1) && decide (sts (L[k]?.getD 0) ≠ 4))) := rfl
        obtain ⟨y2, h2⟩ : ∃ y, sts (L[k]?.getD 0) = y := ⟨_, rfl⟩
        obtain ⟨y7, h7⟩ : ∃ y, bid (L[k]?.getD 0) = y := ⟨_, rfl⟩
        obtain ⟨y8, h8⟩ : ∃ y, cls (L[k]?.getD 0) = y := ⟨_, rfl⟩
        obtain ⟨y9, h9⟩ : ∃ y, mrk (L[k]?.getD 0) = y := ⟨_, rfl⟩
        obtain ⟨y10, h10⟩ : ∃ y, joi (L[k]?.getD 0) = y := ⟨_, rfl⟩
        rw [h2, h7, h8, h9, h10] at hfa hfla
        rw [h2] at HNV
        rw [HNV.out] at HV2
        obtain ⟨x, hx⟩ : ∃ x, L[k]?.getD 0 = x := ⟨_, rfl⟩
        rw [hx] at hck hfa HD HCK
        have HFA := hid hfa
        obtain ⟨dot, hdot⟩ : ∃ dot, ((L.take k).any fun r => decide (r = 46)) = dot := ⟨_, rfl⟩
        obtain ⟨bad, hbad⟩ : ∃ bad, (L.take k).any nval = bad := ⟨_, rfl⟩
        rw [hdot] at HD
        rw [hbad] at HV2
        rw [hdot, hbad]
        clear hfa h2 h7 h8 h9 h10 hx HT HNV hdot hbad
        go_upto_region 9 with (go_at_call 40; refine (HFA.out _).mono ?_; rintro e w1 ⟨rfl, B1⟩)
        have HB1 := hid (HB.out.trans (B1.mono HB.out.size))
        clear B1 HB hck
        obtain ⟨b2, off2, hbe2, hck⟩ := HCK.out w1 HB1.out
        cases hbe2
        go_cut [6] from 26 to 33 (fun v wc => v = .bool (dot || x == 46) ∧ w1 = wc)
        case first =>
          cases dot
          · go_wp2
            go_meet
            case rel => exact ⟨rfl, rfl⟩
          · go_wp2
            go_meet
            case rel => exact ⟨rfl, rfl⟩
        case rest =>
          obtain ⟨rfl, rfl⟩ := hcut
          obtain ⟨E6, hE6⟩ : ∃ E6, (dot || x == 46) = E6 := ⟨_, rfl⟩
          have HD6 : Hid ((L.take (k + 1)).any (fun r => decide (r = 46)) = E6) := by show _ = _; rw [HD.out, ← hE6, beq_dec]
          rw [hE6]
          clear hE6 HD
          have HV7 : Hid (∀ E7, (bad || (y2 != 1 && y2 != 4)) = E7 → (L.take (k + 1)).any nval = E7) := fun E7 hE7 => by
            rw [HV2.out, ← hE7]
            congr 1
            rw [Bool.eq_iff_iff]; simp
          clear HV2
          cases bad
          · by_cases q1 : y2 = 1
            · have e1 : (y2 != 1) = false := by simp [q1]
              have HV8 := hid (HV7.out false (by rw [e1]; rfl))
              clear q1 HV7
              go_wp2
              go_roundw
              case rel => exact ⟨k + 1, by omega, by rw [HD6.out], by rw [HV8.out], by go_num, HB1⟩
              case measure => simp [intOf]; omega
            · have e1 : (y2 != 1) = true := by simpa using q1
              have HV8 := hid (HV7.out (y2 != 4) (by rw [e1]; simp))
              clear q1 HV7
              go_wp2
              go_roundw
              case rel => exact ⟨k + 1, by omega, by rw [HD6.out], by rw [HV8.out], by go_num, HB1⟩
              case measure => simp [intOf]; omega
          · have HV8 := hid (HV7.out true rfl)
            clear HV7
            go_wp2
            go_roundw
            case rel => exact ⟨k + 1, by omega, by rw [HD6.out], by rw [HV8.out], by go_num, HB1⟩
            case measure => simp [intOf]; omega
      · have hkk : L.take k = L := List.take_of_length_le (by rw [HN.out]; omega)
        rw [hkk]
        clear hkk
        have HC := hid (fun W (h : Below w.heap.size w W) j (hj : j < n) => cell_at HF.out h j hj)
        have HI := hid (fun W (h : Below w.heap.size w W) => HV.out.below h (Nat.le_refl _))
        have HNF := hid (fun W (h : Below w.heap.size w W) => N.rnfc_any _ L W (by rw [HN.out]; exact hlen) (HI.out W h))
        have HSM := hid (fun W (h : Below w.heap.size w W) (u : Value) (hu : U.IntsAt W u (N.nfcI L)) => N.same_any u _ (N.nfcI L) L W (by have := N.nfcI_len L; have := N.nfdI_len L; have h2 := HN.out; omega) hu (HI.out W h))
        have HBG := hid (fun W (h : Below w.heap.size w W) => rbegins_any _ L W (by rw [HN.out]; omega) (HI.out W h))
        have HJO := hid (fun W (h : Below w.heap.size w W) => rjoins_any _ L W (by rw [HN.out]; omega) (HI.out W h))
        have HMK := hid (rfind_c (L[0]?.getD 0))
        obtain ⟨x0, x1, x3, x4, x5, x6, hfa⟩ := HMK.out
        have hfla := fld9 x0 x1 (sts (L[0]?.getD 0)) x3 x4 x5 x6 (bid (L[0]?.getD 0)) (cls (L[0]?.getD 0)) (joi (L[0]?.getD 0)) (mrk (L[0]?.getD 0))
        obtain ⟨y2, h2⟩ : ∃ y, sts (L[0]?.getD 0) = y := ⟨_, rfl⟩
        obtain ⟨y7, h7⟩ : ∃ y, bid (L[0]?.getD 0) = y := ⟨_, rfl⟩
        obtain ⟨y8, h8⟩ : ∃ y, cls (L[0]?.getD 0) = y := ⟨_, rfl⟩
        obtain ⟨y9, h9⟩ : ∃ y, mrk (L[0]?.getD 0) = y := ⟨_, rfl⟩
        obtain ⟨y10, h10⟩ : ∃ y, joi (L[0]?.getD 0) = y := ⟨_, rfl⟩
        rw [h2, h7, h8, h9, h10] at hfa hfla
        rw [h9] at HE
        obtain ⟨m, hm⟩ : ∃ m, n - 1 = m := ⟨_, rfl⟩
        have em : (n : Int) - 1 = (m : Int) := by omega
        have hm1 : m < n := by omega
        rw [hm] at HE
        obtain ⟨z0, e0⟩ : ∃ z, L[0]?.getD 0 = z := ⟨_, rfl⟩
        obtain ⟨z2, e2⟩ : ∃ z, L[2]?.getD 0 = z := ⟨_, rfl⟩
        obtain ⟨z3, e3⟩ : ∃ z, L[3]?.getD 0 = z := ⟨_, rfl⟩
        obtain ⟨zm, e4⟩ : ∃ z, L[m]?.getD 0 = z := ⟨_, rfl⟩
        have C0 : Hid (∀ W, Below w.heap.size w W → W.cell? ⟨b, off, none⟩ = some (.int .i32 z0)) := fun W h => by
          obtain ⟨b', off', e', hh⟩ := HC.out W h 0 (by omega)
          cases e'; rw [← e0]; exact hh
        have C2 : Hid (∀ W, Below w.heap.size w W → 4 ≤ n → W.cell? ⟨b, off + 2, none⟩ = some (.int .i32 z2)) := fun W h h4 => by
          obtain ⟨b', off', e', hh⟩ := HC.out W h 2 (by omega)
          cases e'; rw [← e2]; exact hh
        have C3 : Hid (∀ W, Below w.heap.size w W → 4 ≤ n → W.cell? ⟨b, off + 3, none⟩ = some (.int .i32 z3)) := fun W h h4 => by
          obtain ⟨b', off', e', hh⟩ := HC.out W h 3 (by omega)
          cases e'; rw [← e3]; exact hh
        have C4 : Hid (∀ W, Below w.heap.size w W → W.cell? ⟨b, off + m, none⟩ = some (.int .i32 zm)) := fun W h => by
          obtain ⟨b', off', e', hh⟩ := HC.out W h m hm1
          cases e'; rw [← e4]; exact hh
        rw [e0, e2, e3, e4] at HE
        rw [e0] at hfa
        have HFA := hid hfa
        obtain ⟨dot, hdot⟩ : ∃ dot, (L.any fun r => decide (r = 46)) = dot := ⟨_, rfl⟩
        obtain ⟨bad, hbad⟩ : ∃ bad, L.any nval = bad := ⟨_, rfl⟩
        obtain ⟨pre, hpre⟩ : ∃ pre, pre4 L = pre := ⟨_, rfl⟩
        obtain ⟨jo, hjo⟩ : ∃ jo, jok L = jo := ⟨_, rfl⟩
        obtain ⟨nf, hnf⟩ : ∃ nf, decide (N.nfcI L = L) = nf := ⟨_, rfl⟩
        rw [hdot, hbad, hpre, hjo, hnf] at HE
        rw [hpre] at HBG
        rw [hjo] at HJO
        rw [hnf] at HSM
        rw [hdot, hbad]
        obtain ⟨q2, hq2⟩ : ∃ q, (hy && decide (4 ≤ n) && decide (z2 = 45) && decide (z3 = 45)) = q := ⟨_, rfl⟩
        obtain ⟨q3, hq3⟩ : ∃ q, (hy && (decide (z0 = 45) || decide (zm = 45))) = q := ⟨_, rfl⟩
        rw [hq2, hq3] at HE
        have HQ2 := hid hq2
        have HQ3 := hid hq3
        have hnz : (0 : Int) < (n : Int) := by omega
        clear HC HV HF HMK hfa h2 h7 h8 h9 h10 hm e0 e2 e3 e4 hdot hbad hpre hjo hnf hq2 hq3
        go_upto_region 12 with (first
          | (go_at_call_of 96 (1 : Int); refine (rbit_b _ 1 _ (by omega)).mono ?_; rintro e wb ⟨B1, rfl, l1, u1, HB1b, hwb⟩; obtain rfl := hwb.symm)
          | (go_at_call 17; refine (HSM.out _ HBn.out _ (U.IntsAt.own rfl Rn.out)).mono ?_; rintro e w3 ⟨rfl, B3⟩; have HB3 := hid (HBn.out.trans (B3.mono HBn.out.size)); clear B3)
          | (go_at_call 42; refine (HNF.out _ HB.out).mono ?_; rintro e w2 ⟨v2, rfl, r2, B2⟩; have Rn := hid r2; have HBn := hid (HB.out.trans (B2.mono HB.out.size)); clear r2 B2))
        have HB1q := HB1b
        clear HB1b HSM HNF HI
        go_cut [10] from 49 to 68 (fun v wc => ∃ F : Int, v = .int .u16 F ∧ 0 ≤ F ∧ F ≤ 3 ∧ Hid (F = bt (!nf) 1 + bt q2 2) ∧ w3 = wc)
        case first =>
          cases hy
          · go_wp2_with (go_at_call_of 96 (2 : Int); refine (rbit_b _ 2 _ (by omega)).mono ?_; rintro e wb ⟨B2, rfl, l2, u2, HB2b, hwb⟩; obtain rfl := hwb.symm)
            go_meet
            case rel => exact ⟨B1 + B2, by first | rfl | go_num, by omega, by omega, by show _ = _; rw [HB1q.out, HB2b.out, ← HQ2.out]; rfl, rfl⟩
          · by_cases h4 : 4 ≤ n
            · have h4z : (4 : Int) ≤ (n : Int) := by omega
              have c2 := C2.out _ HB3.out h4
              have c3 := C3.out _ HB3.out h4
              by_cases q : z2 = 45
              · have eq2 : (z2 == 45) = true := by simpa using q
                have HZ := hid q
                clear q
                go_wp2_with (go_at_call_of 96 (2 : Int); refine (rbit_b _ 2 _ (by omega)).mono ?_; rintro e wb ⟨B2, rfl, l2, u2, HB2b, hwb⟩; obtain rfl := hwb.symm)
                go_meet
                case rel => exact ⟨B1 + B2, by first | rfl | go_num, by omega, by omega, by show _ = _; rw [HB1q.out, HB2b.out, ← HQ2.out, decide_eq_true h4, decide_eq_true HZ.out, ← beq_dec z3 45]; rfl, rfl⟩
              · have eq2 : (z2 == 45) = false := by simpa using q
                go_wp2_with (go_at_call_of 96 (2 : Int); refine (rbit_b _ 2 _ (by omega)).mono ?_; rintro e wb ⟨B2, rfl, l2, u2, HB2b, hwb⟩; obtain rfl := hwb.symm)
                go_meet
                case rel => exact ⟨B1 + B2, by first | rfl | go_num, by omega, by omega, by show _ = _; rw [HB1q.out, HB2b.out, ← HQ2.out, decide_eq_true h4, decide_eq_false q]; rfl, rfl⟩
            · have h4z : ¬ (4 : Int) ≤ (n : Int) := by omega
              go_wp2_with (go_at_call_of 96 (2 : Int); refine (rbit_b _ 2 _ (by omega)).mono ?_; rintro e wb ⟨B2, rfl, l2, u2, HB2b, hwb⟩; obtain rfl := hwb.symm)
              go_meet
              case rel => exact ⟨B1 + B2, by first | rfl | go_num, by omega, by omega, by show _ = _; rw [HB1q.out, HB2b.out, ← HQ2.out, decide_eq_false h4]; rfl, rfl⟩
        case rest =>
          obtain ⟨F2, rfl, f2a, f2b, HF2, rfl⟩ := hcut
          clear HB1q l1 u1 HQ2 C2 C3
          go_upto_region 13 with fail
          have c0 := C0.out _ HB3.out
          have c4 := C4.out _ HB3.out
          go_cut [10] from 69 to 86 (fun v wc => ∃ F : Int, v = .int .u16 F ∧ 0 ≤ F ∧ F ≤ 7 ∧ Hid (F = F2 + bt q3 4) ∧ w3 = wc)
          case first =>
            cases hy
            · go_wp2_with (go_at_call_of 96 (4 : Int); refine (rbit_b _ 4 _ (by omega)).mono ?_; rintro e wb ⟨B4, rfl, l4, u4, HB4b, hwb⟩; obtain rfl := hwb.symm)
              go_meet
              case rel => exact ⟨F2 + B4, by first | rfl | go_num, by omega, by omega, by show _ = _; rw [HB4b.out, ← HQ3.out]; rfl, rfl⟩
            · by_cases q : z0 = 45
              · have eq0 : (z0 == 45) = true := by simpa using q
                have HZ := hid q
                clear q
                go_wp2_with (go_at_call_of 96 (4 : Int); refine (rbit_b _ 4 _ (by omega)).mono ?_; rintro e wb ⟨B4, rfl, l4, u4, HB4b, hwb⟩; obtain rfl := hwb.symm)
                go_meet
                case rel => exact ⟨F2 + B4, by first | rfl | go_num, by omega, by omega, by show _ = _; rw [HB4b.out, ← HQ3.out, decide_eq_true HZ.out]; rfl, rfl⟩
              · have eq0 : (z0 == 45) = false := by simpa using q
                go_wp2_with (go_at_call_of 96 (4 : Int); refine (rbit_b _ 4 _ (by omega)).mono ?_; rintro e wb ⟨B4, rfl, l4, u4, HB4b, hwb⟩; obtain rfl := hwb.symm)
                go_meet
                case rel => exact ⟨F2 + B4, by first | rfl | go_num, by omega, by omega, by show _ = _; rw [HB4b.out, ← HQ3.out, decide_eq_false q, ← beq_dec zm 45]; rfl, rfl⟩
          case rest =>
            obtain ⟨F3, rfl, f3a, f3b, HF3, rfl⟩ := hcut
            clear HQ3 C4 c4
            go_wp2_with (first
              | (go_at_call_of 96 (8 : Int); refine (rbit_b _ 8 _ (by omega)).mono ?_; rintro e wb ⟨B8, rfl, l8, u8, HB8b, hwb⟩; obtain rfl := hwb.symm)
              | (go_at_call_of 96 (16 : Int); refine (rbit_b _ 16 _ (by omega)).mono ?_; rintro e wb ⟨B16, rfl, l16, u16, HB16b, hwb⟩; obtain rfl := hwb.symm)
              | (go_at_call_of 96 (32 : Int); refine (rbit_b _ 32 _ (by omega)).mono ?_; rintro e wb ⟨B32, rfl, l32, u32, HB32b, hwb⟩; obtain rfl := hwb.symm)
              | (go_at_call_of 96 (64 : Int); refine (rbit_b _ 64 _ (by omega)).mono ?_; rintro e wb ⟨B64, rfl, l64, u64, HB64b, hwb⟩; obtain rfl := hwb.symm)
              | (go_at_call_of 96 (128 : Int); refine (rbit_b _ 128 _ (by omega)).mono ?_; rintro e wb ⟨B128, rfl, l128, u128, HB128b, hwb⟩; obtain rfl := hwb.symm)
              | (go_at_call 68; refine (HBG.out _ HB3.out).mono ?_; rintro e wb ⟨rfl, hwb⟩; obtain rfl := hwb.symm)
              | (go_at_call 40; refine (HFA.out _).mono ?_; rintro e w5 ⟨rfl, B5⟩; have HB5 := hid (HB3.out.trans (B5.mono HB3.out.size)); clear B5)
              | (go_at_call 97; refine (HJO.out _ HB5.out).mono ?_; rintro e w6 ⟨rfl, B6⟩; have HB6 := hid (HB5.out.trans (B6.mono HB5.out.size)); clear B6))
            go_ret
            refine ⟨?_, HB6.out⟩
            have t1 := HE.out
            have t2 := HF2.out
            have t3 := HF3.out
            have t4 := HB8b.out
            have t5 := HB16b.out
            have t6 := HB32b.out
            have t7 := HB64b.out
            have t8 := HB128b.out
            show Ending.returned (.int .u16 _) = Ending.returned (.int .u16 R)
            congr 2
            omega
end Go.Proofs.YtdncaehajhmcoaaGreat.L
