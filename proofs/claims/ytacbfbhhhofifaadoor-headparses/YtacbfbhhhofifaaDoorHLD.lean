/- HeadParses. (Stage 19.) -/
import Derived.Test.YtacbfbhhhofifaaDoorHLC
namespace Go.Proofs.YtacbfbhhhofifaaDoor.Hd
open Go.RowKit
open Go.Proofs.YtacbfbhhhofifaaDoor.F (bn bn_length bn_append bn_inj bn_get byte_bd hid bn_extract isEmpty_false isEmpty_true str_eq same_eq)
set_option linter.unusedVariables false

theorem StrAt.cell {w : World} {b off n cap : Nat} {l : List ByteArray} (h : StrAt w (.slice (some ⟨b, off, none⟩) n cap) l) {j : Nat} (hj : j < l.length) : w.cell? ⟨b, off + j, none⟩ = some (.string (l[j]?.getD ⟨#[]⟩)) := by
  obtain ⟨a, cap', e, _, h1⟩ := h
  obtain ⟨b', off', ea, hc⟩ := h1 (by omega)
  injection e with e1
  subst e1
  injection ea with ea
  injection ea with e2 e3
  subst e2; subst e3
  exact hc j hj
theorem str_self (t : ByteArray) : (t.toList == t.toList) = true := by simp
set_option maxRecDepth 100000 in
set_option maxHeartbeats 8000000 in
theorem parses_walk {Rd : Nat → World → Value → List Int → Prop} (C : Ctr Rd) (s name : ByteArray) (M T : ByteArray) (v : Int) (F : Value) (fs : List Fb) (w : World) (hF : FldAt w F fs) (hv0 : 0 ≤ v) (hv1 : v ≤ 255) (hfw : ∀ x ∈ fs, x.y.size ≤ 140737488351232) : Calls Tryd.prog 4 #[.string s, .string name, .agg #[.string M, .string T, .int .u8 v, F]] w fun e W' => e = .returned (.bool true) ∧ Below w.heap.size w W' := by
  have HC := hid C
  obtain ⟨ao, cap, rfl, _, _⟩ := id hF
  have HF := hid hF
  have HFW := hid hfw
  clear hfw
  have HBX : Hid (Below w.heap.size w (w.alloc (.cells #[.string M, .string T, .int .u8 v, .slice ao fs.length cap] 27))) := (Below.refl _ w).alloc (Nat.le_refl _) _
  clear hF
  obtain ⟨u, hu⟩ : ∃ u, (!decide (s.size ≤ 32768 ∧ name.size ≤ 4096 ∧ fs.length ≤ 200)) = u := ⟨_, rfl⟩
  have HU := hid hu
  clear hu
  go_enter Tryd.func4, Tryd.ntmps4
  go_upto_region 1 with fail
  go_cut [30] from 17 to 30 (fun v30 wc => v30 = .bool u ∧ wc = (w.alloc (.cells #[.string M, .string T, .int .u8 v, .slice ao fs.length cap] 27)))
  case first =>
    clear HBX HF HC
    by_cases h1 : s.size ≤ 32768
    · have h1z : ¬ 32768 < (s.size : Int) := by omega
      by_cases h2 : name.size ≤ 4096
      · have h2z : ¬ 4096 < (name.size : Int) := by omega
        by_cases h3 : fs.length ≤ 200
        · have h3z : ¬ 200 < (fs.length : Int) := by omega
          have h3d : decide (200 < (fs.length : Int)) = false := decide_eq_false h3z
          have h2d : decide (4096 < (name.size : Int)) = false := decide_eq_false h2z
          have h1d : decide (32768 < (s.size : Int)) = false := decide_eq_false h1z
          have HX : Hid (u = false) := by show _ = _; rw [← HU.out, decide_eq_true ⟨h1, h2, h3⟩]; rfl
          clear HU
          go_wp2
          go_meet
          case rel => exact ⟨by rw [HX.out] <;> rfl, by first | rfl | trivial⟩
        · have h3z : 200 < (fs.length : Int) := by omega
          have h2d : decide (4096 < (name.size : Int)) = false := decide_eq_false h2z
          have h1d : decide (32768 < (s.size : Int)) = false := decide_eq_false h1z
          have HX : Hid (u = true) := by show _ = _; rw [← HU.out, decide_eq_false (fun h => h3 h.2.2)]; rfl
          clear HU
          go_wp2
          go_meet
          case rel => exact ⟨by rw [HX.out] <;> rfl, by first | rfl | trivial⟩
      · have h2z : 4096 < (name.size : Int) := by omega
        have h1d : decide (32768 < (s.size : Int)) = false := decide_eq_false h1z
        have HX : Hid (u = true) := by show _ = _; rw [← HU.out, decide_eq_false (fun h => h2 h.2.1)]; rfl
        clear HU
        go_wp2
        go_meet
        case rel => exact ⟨by rw [HX.out] <;> rfl, by first | rfl | trivial⟩
    · have h1z : 32768 < (s.size : Int) := by omega
      have HX : Hid (u = true) := by show _ = _; rw [← HU.out, decide_eq_false (fun h => h1 h.1)]; rfl
      clear HU
      go_wp2
      go_meet
      case rel => exact ⟨by rw [HX.out] <;> rfl, by first | rfl | trivial⟩
  case rest =>
    obtain ⟨rfl, rfl⟩ := hcut
    cases u with
    | true =>
      clear HU HF
      go_wp2_with fail
      refine (alive_any HC.out _).mono ?_
      rintro e w2 ⟨rfl, hB⟩
      have HB2 := hid (HBX.out.trans (hB.mono HBX.out.size))
      clear hB
      go_wp2
      go_ret
      exact ⟨rfl, HB2.out⟩
    | false =>
      obtain ⟨h1, h2, h3⟩ : s.size ≤ 32768 ∧ name.size ≤ 4096 ∧ fs.length ≤ 200 := by
        have := HU.out
        simpa using this
      clear HU
      have HR5 := hid (heap_alloc_last w (.cells #[.string M, .string T, .int .u8 v, .slice ao fs.length cap] 27))
      have HF1 := hid (HF.out.below ((Below.refl _ w).alloc (Nat.le_refl _) (.cells #[.string M, .string T, .int .u8 v, .slice ao fs.length cap] 27)))
      obtain ⟨w1, hw1⟩ : ∃ w1, (w.alloc (.cells #[.string M, .string T, .int .u8 v, .slice ao fs.length cap] 27)) = w1 := ⟨_, rfl⟩
      rw [hw1] at HR5 HF1 HBX ⊢
      clear hw1 HF
      obtain ⟨q, hq⟩ : ∃ q, go s0 (bn s) = q := ⟨_, rfl⟩
      have hqs := go0_small (bn s)
      rw [hq] at hqs
      go_wp2_with fail
      refine (HC.out.parse s _ (by omega)).mono ?_
      rintro e w2 ⟨⟨hv, he, hh⟩, hB⟩
      rw [hq] at he hh
      obtain ⟨U, hU⟩ : ∃ U, (if q.e = 0 ∧ q.d = false then 0 else q.n) = U := ⟨_, rfl⟩
      obtain ⟨X, hX⟩ : ∃ X, (if q.e = 0 ∧ q.d = false then 7 else q.e) = X := ⟨_, rfl⟩
      rw [hU, hX] at he
      subst he
      obtain ⟨Ma, Ta, va, Fa, fa, rfl, ⟨aA, cA, rfl, _, _⟩, _, _, _, _⟩ := id hh
      have HA2 := hid hh
      have HR2 := hid (kept HR5.out hB)
      have HF2 := hid (HF1.out.below hB)
      have HB2 := hid (HBX.out.trans (hB.mono HBX.out.size))
      have hw2 : w.heap.size ≤ w2.heap.size := Nat.le_trans HBX.out.size hB.size
      clear hB hh HR5 HF1 HBX
      have BA : Below w2.heap.size w2 (w2.alloc (.cells #[.string Ma, .string Ta, .int .u8 va, .slice aA fa.length cA] 27)) := (Below.refl _ w2).alloc (Nat.le_refl _) _
      have HRA := hid (heap_alloc_last w2 (.cells #[.string Ma, .string Ta, .int .u8 va, .slice aA fa.length cA] 27))
      have HA3 := hid (HA2.out.below BA)
      have HR3 := hid (kept HR2.out BA)
      have HF3 := hid (HF2.out.below BA)
      have HB3 := hid (HB2.out.trans (BA.mono hw2))
      have hw3 : w.heap.size ≤ (w2.alloc (.cells #[.string Ma, .string Ta, .int .u8 va, .slice aA fa.length cA] 27)).heap.size := Nat.le_trans hw2 BA.size
      clear BA HA2 HR2 HF2 HB2
      go_wp2_with fail
      refine (rrun_any s (by omega) _).mono ?_
      rintro e w3 ⟨⟨hv, he, hh⟩, hB⟩
      rw [hq] at he hh
      obtain ⟨n, hn⟩ : ∃ n, q.n = n := ⟨_, rfl⟩
      obtain ⟨d, hd⟩ : ∃ d, q.d = d := ⟨_, rfl⟩
      obtain ⟨x, hx⟩ : ∃ x, q.e = x := ⟨_, rfl⟩
      have HUU : Hid ((if x = 0 ∧ d = false then 0 else n) = U) := by show _ = _; rw [← hU, hn, hd, hx]
      have HXX : Hid ((if x = 0 ∧ d = false then 7 else x) = X) := by show _ = _; rw [← hX, hd, hx]
      rw [hn, hd, hx] at he
      rw [hn, hx] at hqs
      subst he
      obtain ⟨Mb, Tb, vb, Fb', fb, rfl, ⟨aB, cB, rfl, _, _⟩, _, _, _, _⟩ := id hh
      have HBH := hid hh
      have HRA4 := hid (kept HRA.out hB)
      have HA4 := hid (HA3.out.below hB)
      have HR4 := hid (kept HR3.out hB)
      have HF4 := hid (HF3.out.below hB)
      have HB4 := hid (HB3.out.trans (hB.mono hw3))
      have hw4 : w.heap.size ≤ w3.heap.size := Nat.le_trans hw3 hB.size
      have hlt : w2.heap.size < w3.heap.size := Nat.lt_of_lt_of_le (by simp) hB.size
      clear hB hh HRA HA3 HR3 HF3 HB3 hw3 hU hX hn hd hx
      have BB : Below w3.heap.size w3 (w3.alloc (.cells #[.string Mb, .string Tb, .int .u8 vb, .slice aB fb.length cB] 27)) := (Below.refl _ w3).alloc (Nat.le_refl _) _
      have HRB := hid (heap_alloc_last w3 (.cells #[.string Mb, .string Tb, .int .u8 vb, .slice aB fb.length cB] 27))
      have HRA5 := hid (kept HRA4.out BB)
      have HA5 := hid (HA4.out.below BB)
      have HB5 := hid (HBH.out.below BB)
      have HR5 := hid (kept HR4.out BB)
      have HF5 := hid (HF4.out.below BB)
      have HBW := hid (HB4.out.trans (BB.mono hw4))
      have hw5 : w.heap.size ≤ (w3.alloc (.cells #[.string Mb, .string Tb, .int .u8 vb, .slice aB fb.length cB] 27)).heap.size := Nat.le_trans hw4 BB.size
      clear BB HRA4 HA4 HBH HR4 HF4 HB4
      go_upto_region 5 with fail
      obtain ⟨c, hc⟩ : ∃ c, decide (x = 0 ∧ d = false) = c := ⟨_, rfl⟩
      have HCC := hid hc
      clear hc
      go_cut [50] from 45 to 50 (fun v50 wc => v50 = .bool c ∧ wc = w3.alloc (.cells #[.string Mb, .string Tb, .int .u8 vb, .slice aB fb.length cB] 27))
      case first =>
        clear HUU HXX HRB HRA5 HA5 HB5 HR5 HF5 HBW HC
        by_cases h0 : x = 0
        · have h0z : ((x : Int) == 0) = true := by rw [h0]; rfl
          have HX : Hid (c = !d) := by show _ = _; rw [← HCC.out, h0]; cases d <;> rfl
          clear HCC h0
          cases d with
          | true =>
            go_wp2
            go_meet
            case rel => exact ⟨by rw [HX.out] <;> rfl, by first | rfl | trivial⟩
          | false =>
            go_wp2
            go_meet
            case rel => exact ⟨by rw [HX.out] <;> rfl, by first | rfl | trivial⟩
        · have h0z : ((x : Int) == 0) = false := by simp; omega
          have HX : Hid (c = false) := by show _ = _; rw [← HCC.out]; exact decide_eq_false (fun h => h0 h.1)
          clear HCC h0
          go_wp2
          go_meet
          case rel => exact ⟨by rw [HX.out] <;> rfl, by first | rfl | trivial⟩
      case rest =>
        obtain ⟨rfl, rfl⟩ := hcut
        go_upto_if 50 with fail
        go_cut [10, 13] from 45 to 50 (fun v10 v13 wc => v10 = .int .i64 (U : Int) ∧ v13 = .int .i64 (X : Int) ∧ wc = w3.alloc (.cells #[.string Mb, .string Tb, .int .u8 vb, .slice aB fb.length cB] 27))
        case first =>
          clear HRB HRA5 HA5 HB5 HR5 HF5 HBW HC
          cases c with
          | true =>
            have hcc : x = 0 ∧ d = false := of_decide_eq_true HCC.out
            have HU' : Hid (U = 0) := by show _ = _; rw [← HUU.out, if_pos hcc]
            have HX' : Hid (X = 7) := by show _ = _; rw [← HXX.out, if_pos hcc]
            clear hcc HCC HUU HXX
            go_wp2
            go_meet
            case rel => exact ⟨by rw [HU'.out] <;> rfl, by rw [HX'.out] <;> rfl, by first | rfl | trivial⟩
          | false =>
            have hcc : ¬ (x = 0 ∧ d = false) := of_decide_eq_false HCC.out
            have HU' : Hid (U = n) := by show _ = _; rw [← HUU.out, if_neg hcc]
            have HX' : Hid (X = x) := by show _ = _; rw [← HXX.out, if_neg hcc]
            clear hcc HCC HUU HXX
            go_wp2
            go_meet
            case rel => exact ⟨by rw [HU'.out] <;> rfl, by rw [HX'.out] <;> rfl, by first | rfl | trivial⟩
        case rest =>
          obtain ⟨rfl, rfl, rfl⟩ := hcut
          clear HCC HUU HXX
          obtain ⟨w5, hw5e⟩ : ∃ w5, w3.alloc (.cells #[.string Mb, .string Tb, .int .u8 vb, .slice aB fb.length cB] 27) = w5 := ⟨_, rfl⟩
          rw [hw5e] at HRB HRA5 HA5 HB5 HR5 HF5 HBW hw5 ⊢
          clear hw5e
          have a0 := cell_of_row _ _ 0 _ _ _ HRA5.out
          have a1 := cell_of_row _ _ 1 _ _ _ HRA5.out
          have a2 := cell_of_row _ _ 2 _ _ _ HRA5.out
          have a3 := cell_of_row _ _ 3 _ _ _ HRA5.out
          have b0 := cell_of_row _ _ 0 _ _ _ HRB.out
          have b1 := cell_of_row _ _ 1 _ _ _ HRB.out
          have b2 := cell_of_row _ _ 2 _ _ _ HRB.out
          have b3 := cell_of_row _ _ 3 _ _ _ HRB.out
          simp only [List.getElem?_toArray, List.getElem?_cons_succ, List.getElem?_cons_zero] at a0 a1 a2 a3 b0 b1 b2 b3
          go_wp2_with fail
          refine (rsame_any _ _ _ _ _ HA5.out HB5.out).mono ?_
          rintro e w6 ⟨⟨r, rfl, hr⟩, hB⟩
          obtain rfl := hr.2 rfl
          have HR6 := hid (kept HR5.out hB)
          have HF6 := hid (HF5.out.below hB)
          have HB6 := hid (HBW.out.trans (hB.mono hw5))
          have hw6 : w.heap.size ≤ w6.heap.size := Nat.le_trans hw5 hB.size
          clear hB hr a0 a1 a2 a3 b0 b1 b2 b3 HA5 HB5 HRB HRA5 HR5 HF5 HBW
          go_wp2_with fail
          refine (HC.out.token name _ (by omega)).mono ?_
          rintro e w7 ⟨rfl, hB⟩
          have HR7 := hid (kept HR6.out hB)
          have HF7 := hid (HF6.out.below hB)
          have HB7 := hid (HB6.out.trans (hB.mono hw6))
          have hw7 : w.heap.size ≤ w7.heap.size := Nat.le_trans hw6 hB.size
          clear hB HR6 HF6 HB6
          go_wp2_with fail
          refine (rtoken_any name (by omega) _).mono ?_
          rintro e w8 ⟨rfl, rfl⟩
          have a0 := cell_of_row _ _ 0 _ _ _ HR7.out
          have a1 := cell_of_row _ _ 1 _ _ _ HR7.out
          have a2 := cell_of_row _ _ 2 _ _ _ HR7.out
          have a3 := cell_of_row _ _ 3 _ _ _ HR7.out
          simp only [List.getElem?_toArray, List.getElem?_cons_succ, List.getElem?_cons_zero] at a0 a1 a2 a3
          go_wp2_with fail
          refine (HC.out.get M T v _ fs name _ HF7.out (by omega) HFW.out).mono ?_
          rintro e w9 ⟨⟨u1, rfl, hS1⟩, hB⟩
          have HR9 := hid (kept HR7.out hB)
          have HF9 := hid (HF7.out.below hB)
          have HB9 := hid (HB7.out.trans (hB.mono hw7))
          have hw9 : w.heap.size ≤ w9.heap.size := Nat.le_trans hw7 hB.size
          have HS1 := hid hS1
          clear hB hS1 HR7 HF7 HB7 a0 a1 a2 a3
          have a0 := cell_of_row _ _ 0 _ _ _ HR9.out
          have a1 := cell_of_row _ _ 1 _ _ _ HR9.out
          have a2 := cell_of_row _ _ 2 _ _ _ HR9.out
          have a3 := cell_of_row _ _ 3 _ _ _ HR9.out
          simp only [List.getElem?_toArray, List.getElem?_cons_succ, List.getElem?_cons_zero] at a0 a1 a2 a3
          go_wp2_with fail
          refine (rget_any M T v _ fs name _ HF9.out (by omega)).mono ?_
          rintro e wA ⟨⟨u2, rfl, hS2⟩, hB⟩
          have HBA := hid (HB9.out.trans (hB.mono hw9))
          have hwA : w.heap.size ≤ wA.heap.size := Nat.le_trans hw9 hB.size
          have HSa := hid (HS1.out.below hB)
          have HSb := hid hS2
          obtain ⟨g, hg⟩ : ∃ g, gots fs name = g := ⟨_, rfl⟩
          have hgl := gots_len fs name
          rw [hg] at HSa HSb hgl
          obtain ⟨a1', c1', rfl, _, hc1⟩ := HSa.out
          obtain ⟨a2', c2', rfl, _, hc2⟩ := HSb.out
          have HC1 : Hid (0 < g.length → ∃ b off, a1' = some ⟨b, off, none⟩) := fun h => let ⟨b, off, e, _⟩ := hc1 h; ⟨b, off, e⟩
          have HC2 : Hid (0 < g.length → ∃ b off, a2' = some ⟨b, off, none⟩) := fun h => let ⟨b, off, e, _⟩ := hc2 h; ⟨b, off, e⟩
          clear hB hS2 HR9 HF9 HB9 HS1 hg a0 a1 a2 a3 hc1 hc2
          go_wp2_with fail
          go_loopw [16] (fun v16 wr => ∃ i : Nat, i ≤ g.length ∧ v16 = .int .i64 (i : Int) ∧ Hid (StrAt wr (.slice a1' g.length c1') g) ∧ Hid (StrAt wr (.slice a2' g.length c2') g) ∧ Hid (Below w.heap.size w wr) ∧ w.heap.size ≤ wr.heap.size) (fun v16 _ => g.length - (intOf v16).toNat)
          case atStart => exact ⟨0, Nat.zero_le _, rfl, HSa.out, HSb.out, HBA.out, hwA⟩
          case round =>
            clear HSa HSb HBA hwA
            obtain ⟨i, hi, rfl, HSa, HSb, HBA, hwr⟩ := hrel
            by_cases hlt2 : i < g.length
            · have hltz : (i : Int) < (g.length : Int) := by omega
              obtain ⟨ba, oa, rfl⟩ := HC1.out (by omega)
              obtain ⟨bb, ob, rfl⟩ := HC2.out (by omega)
              have c0 := HSa.out.cell hlt2
              have d0 := HSb.out.cell hlt2
              have hself := str_self (g[i]?.getD ⟨#[]⟩)
              obtain ⟨z, hz⟩ : ∃ z, g[i]?.getD ⟨#[]⟩ = z := ⟨_, rfl⟩
              rw [hz] at c0 d0 hself
              have hself2 : (z.toList != z.toList) = false := by simp
              clear hz
              go_wp2_with fail
              go_quiet (fail)
              go_wp2
              go_roundw
              case rel => exact ⟨i + 1, by omega, by go_num, HSa.out.below (drewn (Below.refl _ _) _), HSb.out.below (drewn (Below.refl _ _) _), drewn HBA.out _, hwr⟩
              case measure => simp [intOf]; omega
            · have hltz : ¬ (i : Int) < (g.length : Int) := by omega
              go_wp2_with fail
              refine (alive_any HC.out _).mono ?_
              rintro e wB ⟨rfl, hB⟩
              have HBZ := hid (HBA.out.trans (hB.mono hwr))
              clear hB
              go_wp2
              go_ret
              exact ⟨rfl, HBZ.out⟩
end Go.Proofs.YtacbfbhhhofifaaDoor.Hd
