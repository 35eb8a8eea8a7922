/- SixBack's walk, the way with two colons. (Stage 11.) -/
import Derived.Test.YtpkmpebhlolhaaaDoorXQ
namespace Go.Proofs.YtpkmpebhlolhaaaDoor.X
open Go.RowKit
open Go.Proofs.YtpkmpebhlolhaaaDoor.F (hx hx_bd vl bn bn_length bn_append bn_inj bn_get byte_bd hid bn_extract isEmpty_false isEmpty_true str_eq same_eq)
set_option linter.unusedVariables false
set_option linter.unusedSimpArgs false

set_option maxRecDepth 100000 in
set_option maxHeartbeats 16000000 in
theorem back_gap {G : World → Prop} (C : Ctr G) (a0 a1 a2 a3 a4 a5 a6 a7 fr to : Nat) (cap nts dotted : Bool) (w : World) (hG : G w) (hS : Small [a0, a1, a2, a3, a4, a5, a6, a7]) (hfr : fr < 256) (hto : to < 256) (hyes : fr % 8 < to % 9) :
    Calls Tryd.prog 4 #[.agg #[.int .u16 a0, .int .u16 a1, .int .u16 a2, .int .u16 a3, .int .u16 a4, .int .u16 a5, .int .u16 a6, .int .u16 a7], .int .u8 fr, .int .u8 to, .bool cap, .bool nts, .bool dotted] w fun e W' => e = .returned (.bool true) ∧ Below w.heap.size w W' := by
  have HL8 : Hid ([a0, a1, a2, a3, a4, a5, a6, a7].length = 8) := rfl
  obtain ⟨t, ht⟩ : ∃ t, bn t = txt [a0, a1, a2, a3, a4, a5, a6, a7] := by
    obtain ⟨e, w', fr, ⟨⟨t, _, ht⟩, _⟩, _⟩ := C.ct _ w HL8.out hS hG []
    exact ⟨t, ht⟩
  have hp : prs (bn t) = some [a0, a1, a2, a3, a4, a5, a6, a7] := by rw [ht]; exact prs_txt HL8.out hS
  have hts : t.size ≤ 39 := by rw [← bn_length, ht]; exact (txt_len HL8.out).2
  have HK : Hid (∀ W, Below w.heap.size w W → G W) := fun W h => C.keep w W hG h
  have HW : Hid (∀ W, G W → _) := fun W h => works_any C W h
  have H1 : Hid (∀ W, G W → Calls Tryd.prog 10 #[.agg #[.int .u16 a0, .int .u16 a1, .int .u16 a2, .int .u16 a3, .int .u16 a4, .int .u16 a5, .int .u16 a6, .int .u16 a7]] W fun e W' => e = .returned (.string t) ∧ Below W.heap.size W W') := fun W h => C.ctIs HL8.out hS ht.symm W h
  have H2 : Hid (∀ W, G W → _) := fun W h => C.cpIs (by omega) hp W h
  have HSM := hid hS
  have HC := hid C
  have hq : ∀ W, (binOp .neq 23 (.agg #[.int .u16 a0, .int .u16 a1, .int .u16 a2, .int .u16 a3, .int .u16 a4, .int .u16 a5, .int .u16 a6, .int .u16 a7]) (.agg #[.int .u16 a0, .int .u16 a1, .int .u16 a2, .int .u16 a3, .int .u16 a4, .int .u16 a5, .int .u16 a6, .int .u16 a7])).run Tryd.prog W = .ok (.bool false) W := fun W => neq_arr (X := [a0, a1, a2, a3, a4, a5, a6, a7]) HL8.out W
  have HB : Hid (Below w.heap.size w w) := Below.refl _ _
  clear C hG hS ht hp
  obtain ⟨i, hi⟩ : ∃ i : Nat, (fr : Int) % 8 = (i : Int) := ⟨fr % 8, by simp⟩
  obtain ⟨k, hk⟩ : ∃ k : Nat, (to : Int) % 9 = (k : Int) := ⟨to % 9, by simp⟩
  have hi8 : i < 8 := by omega
  have hk9 : k ≤ 8 := by omega
  go_enter Tryd.func4, Tryd.ntmps4
  go_wp2_with fail
  have HB0 := hid (HB.out.alloc HB.out.size (.cells #[.int .u16 a0, .int .u16 a1, .int .u16 a2, .int .u16 a3, .int .u16 a4, .int .u16 a5, .int .u16 a6, .int .u16 a7] 23))
  refine (H1.out _ (HK.out _ HB0.out)).mono ?_
  rintro e w1 ⟨rfl, B1⟩
  have HR1 : Hid (w1.heap[w.heap.size]? = some (.cells #[.int .u16 a0, .int .u16 a1, .int .u16 a2, .int .u16 a3, .int .u16 a4, .int .u16 a5, .int .u16 a6, .int .u16 a7] 23)) := (B1.block _ (by simp)).trans (heap_alloc_last w _)
  have HB1 := hid (HB0.out.trans (B1.mono HB0.out.size))
  have hz1 : w.heap.size < w1.heap.size := Nat.lt_of_lt_of_le (by simp) B1.size
  clear B1 H1 HB0 HB
  go_wp2_with fail
  refine (H2.out _ (HK.out _ HB1.out)).mono ?_
  rintro e w2 ⟨rfl, B2⟩
  have HR2 : Hid (w2.heap[w.heap.size]? = some (.cells #[.int .u16 a0, .int .u16 a1, .int .u16 a2, .int .u16 a3, .int .u16 a4, .int .u16 a5, .int .u16 a6, .int .u16 a7] 23)) := (B2.block _ hz1).trans HR1.out
  have HB2 := hid (HB1.out.trans (B2.mono HB1.out.size))
  have hz2 : w.heap.size < w2.heap.size := Nat.lt_of_lt_of_le hz1 B2.size
  clear B2 H2 HB1 HR1
  have HR3 : Hid ((w2.alloc (.cells #[.int .u16 a0, .int .u16 a1, .int .u16 a2, .int .u16 a3, .int .u16 a4, .int .u16 a5, .int .u16 a6, .int .u16 a7] 23)).heap[w.heap.size]? = some (.cells #[.int .u16 a0, .int .u16 a1, .int .u16 a2, .int .u16 a3, .int .u16 a4, .int .u16 a5, .int .u16 a6, .int .u16 a7] 23)) := (((Below.refl w2.heap.size w2).alloc (Nat.le_refl _) (.cells #[.int .u16 a0, .int .u16 a1, .int .u16 a2, .int .u16 a3, .int .u16 a4, .int .u16 a5, .int .u16 a6, .int .u16 a7] 23)).block _ hz2).trans HR2.out
  have HB3 := hid (HB2.out.alloc HB2.out.size (.cells #[.int .u16 a0, .int .u16 a1, .int .u16 a2, .int .u16 a3, .int .u16 a4, .int .u16 a5, .int .u16 a6, .int .u16 a7] 23))
  have c0 : (w2.alloc (.cells #[.int .u16 a0, .int .u16 a1, .int .u16 a2, .int .u16 a3, .int .u16 a4, .int .u16 a5, .int .u16 a6, .int .u16 a7] 23)).cell? ⟨w.heap.size, 0, none⟩ = some (.int .u16 a0) := cell_row (X := [a0, a1, a2, a3, a4, a5, a6, a7]) HR3.out (j := 0) (by simp)
  have c1 : (w2.alloc (.cells #[.int .u16 a0, .int .u16 a1, .int .u16 a2, .int .u16 a3, .int .u16 a4, .int .u16 a5, .int .u16 a6, .int .u16 a7] 23)).cell? ⟨w.heap.size, 1, none⟩ = some (.int .u16 a1) := cell_row (X := [a0, a1, a2, a3, a4, a5, a6, a7]) HR3.out (j := 1) (by simp)
  have c2 : (w2.alloc (.cells #[.int .u16 a0, .int .u16 a1, .int .u16 a2, .int .u16 a3, .int .u16 a4, .int .u16 a5, .int .u16 a6, .int .u16 a7] 23)).cell? ⟨w.heap.size, 2, none⟩ = some (.int .u16 a2) := cell_row (X := [a0, a1, a2, a3, a4, a5, a6, a7]) HR3.out (j := 2) (by simp)
  have c3 : (w2.alloc (.cells #[.int .u16 a0, .int .u16 a1, .int .u16 a2, .int .u16 a3, .int .u16 a4, .int .u16 a5, .int .u16 a6, .int .u16 a7] 23)).cell? ⟨w.heap.size, 3, none⟩ = some (.int .u16 a3) := cell_row (X := [a0, a1, a2, a3, a4, a5, a6, a7]) HR3.out (j := 3) (by simp)
  have c4 : (w2.alloc (.cells #[.int .u16 a0, .int .u16 a1, .int .u16 a2, .int .u16 a3, .int .u16 a4, .int .u16 a5, .int .u16 a6, .int .u16 a7] 23)).cell? ⟨w.heap.size, 4, none⟩ = some (.int .u16 a4) := cell_row (X := [a0, a1, a2, a3, a4, a5, a6, a7]) HR3.out (j := 4) (by simp)
  have c5 : (w2.alloc (.cells #[.int .u16 a0, .int .u16 a1, .int .u16 a2, .int .u16 a3, .int .u16 a4, .int .u16 a5, .int .u16 a6, .int .u16 a7] 23)).cell? ⟨w.heap.size, 5, none⟩ = some (.int .u16 a5) := cell_row (X := [a0, a1, a2, a3, a4, a5, a6, a7]) HR3.out (j := 5) (by simp)
  have c6 : (w2.alloc (.cells #[.int .u16 a0, .int .u16 a1, .int .u16 a2, .int .u16 a3, .int .u16 a4, .int .u16 a5, .int .u16 a6, .int .u16 a7] 23)).cell? ⟨w.heap.size, 6, none⟩ = some (.int .u16 a6) := cell_row (X := [a0, a1, a2, a3, a4, a5, a6, a7]) HR3.out (j := 6) (by simp)
  have c7 : (w2.alloc (.cells #[.int .u16 a0, .int .u16 a1, .int .u16 a2, .int .u16 a3, .int .u16 a4, .int .u16 a5, .int .u16 a6, .int .u16 a7] 23)).cell? ⟨w.heap.size, 7, none⟩ = some (.int .u16 a7) := cell_row (X := [a0, a1, a2, a3, a4, a5, a6, a7]) HR3.out (j := 7) (by simp)
  have hik : i < k := by omega
  have hikz : (i : Int) < (k : Int) := by omega
  have hikq : (fr : Int) % 8 < (to : Int) % 9 := by omega
  go_wp2_with fail
  rw [hi, hk]
  clear hikq
  obtain ⟨w3, hw3⟩ : ∃ w3, w2.alloc (.cells #[.int .u16 a0, .int .u16 a1, .int .u16 a2, .int .u16 a3, .int .u16 a4, .int .u16 a5, .int .u16 a6, .int .u16 a7] 23) = w3 := ⟨_, rfl⟩
  rw [hw3] at HR3 HB3 ⊢
  clear hw3 c0 c1 c2 c3 c4 c5 c6 c7 HR2 HB2 hi hk hq
  go_loopw [18] (fun v18 wr => ∃ (m : Nat) (X : List Nat), i ≤ m ∧ m ≤ k ∧ v18 = .int .i64 m ∧ Hid (Zl [a0, a1, a2, a3, a4, a5, a6, a7] X i m) ∧ Hid (wr.heap[w.heap.size]? = some (.cells (u16s X).toArray 23 (0, 0))) ∧ Hid (Below w.heap.size w wr)) (fun v18 _ => k - (intOf v18).toNat)
  case atStart => exact ⟨i, [a0, a1, a2, a3, a4, a5, a6, a7], Nat.le_refl _, by omega, rfl, Zl.start HL8.out i, HR3, HB3⟩
  case round =>
    obtain ⟨m, X, him, hmk, rfl, HZL, HRR, HBR⟩ := hrel
    by_cases hlt : m < k
    · have hltz : (m : Int) < (k : Int) := by omega
      have hm8 : m < 8 := by omega
      have hdst := cell_row HRR.out (j := m) (by rw [HZL.out.len]; exact hm8)
      have hfz := frozen_of_row wr w.heap.size m _ _ HRR.out
      have HA2 : Hid ((wr.setCell ⟨w.heap.size, m, none⟩ (.int .u16 0)).heap[w.heap.size]? = some (.cells (u16s (X.set m 0)).toArray 23 (0, 0))) := by
        show _ = _
        rw [heap_setCell_same wr _ m _ _ _ HRR.out, show (Value.int .u16 0) = .int .u16 ((0 : Nat) : Int) from rfl, arr_set]
      have HB2 := hid (HBR.out.setCell (p := ⟨w.heap.size, m, none⟩) (Nat.le_refl _) (.int .u16 0))
      have HZ2 := hid (HZL.out.step him hm8)
      go_wp2_with fail
      go_roundw
      case rel => exact ⟨m + 1, X.set m 0, by omega, by omega, by go_num, HZ2, HA2, HB2⟩
      case measure => simp [intOf]; omega
    · have hltz : ¬ (m : Int) < (k : Int) := by omega
      have hkm : k = m := by omega
      subst hkm
      have HXL := hid HZL.out.len
      obtain ⟨b0, b1, b2, b3, b4, b5, b6, b7, hX⟩ : ∃ b0 b1 b2 b3 b4 b5 b6 b7, X = [b0, b1, b2, b3, b4, b5, b6, b7] := by
        match X, HXL.out with
        | [b0, b1, b2, b3, b4, b5, b6, b7], _ => exact ⟨b0, b1, b2, b3, b4, b5, b6, b7, rfl⟩
      rw [hX] at HZL HRR
      have HSB := hid (HZL.out.small HL8.out HSM.out)
      have HZB := hid (HZL.out.zero hk9)
      have HRB : Hid (wr.heap[w.heap.size]? = some (.cells #[.int .u16 b0, .int .u16 b1, .int .u16 b2, .int .u16 b3, .int .u16 b4, .int .u16 b5, .int .u16 b6, .int .u16 b7] 23)) := HRR.out
      have HBB := hid HBR.out
      clear hX HXL HZL HRR HBR HR3 HB3 HSM HL8
      have HBS : Hid (∀ j, j < 8 → [b0, b1, b2, b3, b4, b5, b6, b7][j]?.getD 0 < 65536) := fun j hj => at_small HSB.out (by simpa using hj)
      have HCB : Hid (∀ j, j < 8 → wr.cell? ⟨w.heap.size, j, none⟩ = some (.int .u16 (([b0, b1, b2, b3, b4, b5, b6, b7][j]?.getD 0 : Nat) : Int))) := fun j hj => cell_row (X := [b0, b1, b2, b3, b4, b5, b6, b7]) HRB.out (by simpa using hj)
      have HP6 := hid (fun (h6 : k ≤ 6) => dot_gap (cap := cap) (nts := nts) (B := [b0, b1, b2, b3, b4, b5, b6, b7]) rfl HSB.out hik h6 HZB.out)
      have HP8 := hid (full_gap (cap := cap) (nts := nts) (B := [b0, b1, b2, b3, b4, b5, b6, b7]) rfl HSB.out hik hk9 HZB.out)
      obtain ⟨ps, hps⟩ : ∃ ps, [b0, b1, b2, b3, b4, b5, b6, b7].map (hexT cap nts) = ps := ⟨_, rfl⟩
      have HPL : Hid (ps.length = 8) := by show _ = _; rw [← hps, List.length_map]; rfl
      have HPS : Hid (∀ j, j < 8 → ps[j]?.getD [] = hexT cap nts ([b0, b1, b2, b3, b4, b5, b6, b7][j]?.getD 0)) := fun j hj => by
        rw [← hps, List.getElem?_map, List.getElem?_eq_getElem (by simpa using hj)]; rfl
      rw [hps] at HP6 HP8
      clear hps
      have HHX := hid (fun v hv W => hex_any v hv cap nts W)
      go_wp2_with fail
      go_loop [19, 20] (fun v19 v20 => ∃ (m : Nat) (T : ByteArray), m ≤ 8 ∧ v19 = .string T ∧ v20 = .int .i64 m ∧ T.size ≤ 6 * m ∧ Hid (bn T = gp ps i k m)) (fun _ v20 => 8 - (intOf v20).toNat)
      case atStart => exact ⟨0, ⟨#[]⟩, by omega, rfl, rfl, Nat.le_refl _, by show _ = _; rw [gp_zero]; rfl⟩
      case round =>
        obtain ⟨m, T, hm, rfl, rfl, hTs, HT⟩ := hrel
        by_cases hlt : m < 8
        · have hltz : (m : Int) < 8 := by omega
          have hc := HCB.out m hlt
          have hv := HBS.out m hlt
          have HS1 : Hid (m < i → _) := fun (h : m < i) => gp_lt (ps := ps) (i := i) (k := k) h (by rw [HPL.out]; exact hlt)
          have HS2 : Hid (m = i → gp ps i k (m + 1) = gp ps i k m ++ [58, 58]) := fun h => by rw [h]; exact gp_at hik
          have HS3 : Hid (i < m → m < k → gp ps i k (m + 1) = gp ps i k m) := fun h h2 => gp_in h h2
          have HS4 : Hid (k ≤ m → gp ps i k (m + 1) = gp ps i k m ++ (if m = k then [] else [58]) ++ ps[m]?.getD []) := fun h => gp_ge hik h (by rw [HPL.out]; exact hlt)
          rw [HPS.out m hlt] at HS1 HS4
          obtain ⟨v, hv1⟩ : ∃ v, [b0, b1, b2, b3, b4, b5, b6, b7][m]?.getD 0 = v := ⟨_, rfl⟩
          rw [hv1] at hc hv HS1 HS4
          have HFM := hid (fun W => HHX.out v hv W)
          clear hv1
          by_cases hlo : m < i
          · have HST := hid (HS1.out hlo)
            clear HS1 HS2 HS3 HS4
            have hloz : ¬ (i : Int) ≤ (m : Int) := by omega
            have hmk : ((m : Int) == (k : Int)) = false := by simp; omega
            by_cases h0 : m = 0
            · subst h0
              rw [if_neg (by decide), List.append_nil] at HST
              have hi0 : ¬ (i : Int) ≤ 0 := by omega
              cases dotted
              · go_wp2_with fail
                refine (HFM.out _).mono ?_
                rintro e w5 ⟨⟨u, rfl, hu⟩, hw5⟩
                obtain rfl := hw5.symm
                have hus := hexTs hu
                have HT2 := hid hu
                clear hu
                go_wp2
                exact ⟨⟨0 + 1, T ++ u, by omega, rfl, by go_num, by simp [ByteArray.size_append]; omega, by show _ = _; rw [HST.out]; simp [bn_append, HT.out, HT2.out, bn_colon, bn_colons]⟩, by simp [intOf] <;> omega⟩
              · go_wp2_with fail
                refine (HFM.out _).mono ?_
                rintro e w5 ⟨⟨u, rfl, hu⟩, hw5⟩
                obtain rfl := hw5.symm
                have hus := hexTs hu
                have HT2 := hid hu
                clear hu
                go_wp2
                exact ⟨⟨0 + 1, T ++ u, by omega, rfl, by go_num, by simp [ByteArray.size_append]; omega, by show _ = _; rw [HST.out]; simp [bn_append, HT.out, HT2.out, bn_colon, bn_colons]⟩, by simp [intOf] <;> omega⟩
            · rw [if_pos (by omega)] at HST
              have h0z : (0 : Int) < (m : Int) := by omega
              clear h0
              cases dotted
              · go_wp2_with fail
                refine (HFM.out _).mono ?_
                rintro e w5 ⟨⟨u, rfl, hu⟩, hw5⟩
                obtain rfl := hw5.symm
                have hus := hexTs hu
                have HT2 := hid hu
                clear hu
                go_wp2
                exact ⟨⟨m + 1, T ++ ⟨#[58]⟩ ++ u, by omega, rfl, by go_num, by simp [ByteArray.size_append, colon_size]; omega, by show _ = _; rw [HST.out]; simp [bn_append, HT.out, HT2.out, bn_colon, bn_colons]⟩, by simp [intOf] <;> omega⟩
              · by_cases h6 : m = 6
                · have h6b : ((m : Int) == 6) = true := by rw [h6]; rfl
                  have hk6 : (6 : Int) < (k : Int) := by omega
                  clear h6
                  go_wp2_with fail
                  refine (HFM.out _).mono ?_
                  rintro e w5 ⟨⟨u, rfl, hu⟩, hw5⟩
                  obtain rfl := hw5.symm
                  have hus := hexTs hu
                  have HT2 := hid hu
                  clear hu
                  go_wp2
                  exact ⟨⟨m + 1, T ++ ⟨#[58]⟩ ++ u, by omega, rfl, by go_num, by simp [ByteArray.size_append, colon_size]; omega, by show _ = _; rw [HST.out]; simp [bn_append, HT.out, HT2.out, bn_colon, bn_colons]⟩, by simp [intOf] <;> omega⟩
                · have h6b : ((m : Int) == 6) = false := by simp; omega
                  clear h6
                  go_wp2_with fail
                  refine (HFM.out _).mono ?_
                  rintro e w5 ⟨⟨u, rfl, hu⟩, hw5⟩
                  obtain rfl := hw5.symm
                  have hus := hexTs hu
                  have HT2 := hid hu
                  clear hu
                  go_wp2
                  exact ⟨⟨m + 1, T ++ ⟨#[58]⟩ ++ u, by omega, rfl, by go_num, by simp [ByteArray.size_append, colon_size]; omega, by show _ = _; rw [HST.out]; simp [bn_append, HT.out, HT2.out, bn_colon, bn_colons]⟩, by simp [intOf] <;> omega⟩
          · have hloz : (i : Int) ≤ (m : Int) := by omega
            by_cases hin : m < k
            · have hinz : (m : Int) < (k : Int) := by omega
              by_cases hmi : m = i
              · have HST := hid (HS2.out hmi)
                have hmib : ((m : Int) == (i : Int)) = true := by rw [hmi]; simp
                clear HS1 HS2 HS3 HS4 HFM hmi
                go_wp2
                exact ⟨⟨m + 1, T ++ ⟨#[58, 58]⟩, by omega, rfl, by go_num, by simp [ByteArray.size_append, colons_size]; omega, by show _ = _; rw [HST.out]; simp [bn_append, HT.out, bn_colons]⟩, by simp [intOf] <;> omega⟩
              · have HST := hid (HS3.out (by omega) hin)
                have hmib : ((m : Int) == (i : Int)) = false := by simp; omega
                clear HS1 HS2 HS3 HS4 HFM hmi
                go_wp2
                exact ⟨⟨m + 1, T, by omega, rfl, by go_num, by omega, by show _ = _; rw [HST.out]; exact HT.out⟩, by simp [intOf] <;> omega⟩
            · have hinz : ¬ (m : Int) < (k : Int) := by omega
              have HST := hid (HS4.out (by omega))
              clear HS1 HS2 HS3 HS4
              have h0z : (0 : Int) < (m : Int) := by omega
              by_cases hmk : m = k
              · rw [if_pos hmk, List.append_nil] at HST
                have hmkb : ((m : Int) == (k : Int)) = true := by rw [hmk]; simp
                have HMK := hid hmk
                clear hmk
                cases dotted
                · go_wp2_with fail
                  refine (HFM.out _).mono ?_
                  rintro e w5 ⟨⟨u, rfl, hu⟩, hw5⟩
                  obtain rfl := hw5.symm
                  have hus := hexTs hu
                  have HT2 := hid hu
                  clear hu
                  go_wp2
                  exact ⟨⟨m + 1, T ++ u, by omega, rfl, by go_num, by simp [ByteArray.size_append]; omega, by show _ = _; rw [HST.out]; simp [bn_append, HT.out, HT2.out, bn_colon, bn_colons]⟩, by simp [intOf] <;> omega⟩
                · by_cases h6 : m = 6
                  · subst h6
                    have q6 : ((6 : Int) == (k : Int)) = true := by
                      have e : k = 6 := HMK.out.symm
                      rw [e]; rfl
                    have hk6 : ¬ (6 : Int) < (k : Int) := by omega
                    have hk6n : k ≤ 6 := by omega
                    have hi6 : ¬ (6 : Int) < (i : Int) := by omega
                    have hi6b : (i : Int) ≤ 6 := by omega
                    go_wp2_with fail
                    have hne : Nonempty (Later wr) := ⟨⟨wr, Below.refl _ _⟩⟩
                    have HR6 := HCB.out 6 (by decide)
                    have HR7 := HCB.out 7 (by decide)
                    have y6 : ∀ x : Later wr, x.W.cell? ⟨w.heap.size, 6, none⟩ = some (.int .u16 b6) := fun x => (x.h.cell (p := ⟨w.heap.size, 6, none⟩) (lt_cell HR6)).trans HR6
                    have y7 : ∀ x : Later wr, x.W.cell? ⟨w.heap.size, 7, none⟩ = some (.int .u16 b7) := fun x => (x.h.cell (p := ⟨w.heap.size, 7, none⟩) (lt_cell HR7)).trans HR7
                    have ix6 : ∀ W, (Instr.indexAt 23 (.pointer (some ⟨w.heap.size, 0, none⟩)) (.int .i64 6)).run Tryd.prog W = .ok (.pointer (some ⟨w.heap.size, 6, none⟩)) W := fun W => index8 w.heap.size 6 (by decide) W
                    have ix7 : ∀ W, (Instr.indexAt 23 (.pointer (some ⟨w.heap.size, 0, none⟩)) (.int .i64 7)).run Tryd.prog W = .ok (.pointer (some ⟨w.heap.size, 7, none⟩)) W := fun W => index8 w.heap.size 7 (by decide) W
                    have l6 : b6 < 65536 := HBS.out 6 (by decide)
                    have l7 : b7 < 65536 := HBS.out 7 (by decide)
                    clear HR6 HR7
                    have TEN : ∀ n : Nat, n < 256 → ∃ u : ByteArray, bn u = tenT n ∧ ∀ W, Calls Tryd.prog 12 #[.int .u16 n] W fun e W' => e = .returned (.string u) ∧ Below W.heap.size W W' := fun n hn => by
                      obtain ⟨e, w', fr, ⟨⟨u, _, hu⟩, _⟩, _⟩ := ten_any n hn w []
                      refine ⟨u, hu, fun W => (ten_any n hn W).mono ?_⟩
                      rintro e W' ⟨⟨u2, rfl, hu2⟩, hB⟩
                      obtain rfl := bn_inj (hu2.trans hu.symm)
                      exact ⟨rfl, hB⟩
                    obtain ⟨u1, hu1, k1⟩ := TEN (b6 / 256) (by omega)
                    obtain ⟨u2, hu2, k2⟩ := TEN (b6 % 256) (by omega)
                    obtain ⟨u3, hu3, k3⟩ := TEN (b7 / 256) (by omega)
                    obtain ⟨u4, hu4, k4⟩ := TEN (b7 % 256) (by omega)
                    have KT1 : Hid (∀ W, Calls Tryd.prog 12 #[.int .u16 ((b6 : Int) / 256)] W fun e W' => e = .returned (.string u1) ∧ Below W.heap.size W W') := k1
                    have KT2 : Hid (∀ W, Calls Tryd.prog 12 #[.int .u16 (bits .and .u16 (b6 : Int) 255)] W fun e W' => e = .returned (.string u2) ∧ Below W.heap.size W W') := fun W => by rw [and255 b6 l6]; exact k2 W
                    have KT3 : Hid (∀ W, Calls Tryd.prog 12 #[.int .u16 ((b7 : Int) / 256)] W fun e W' => e = .returned (.string u3) ∧ Below W.heap.size W W') := k3
                    have KT4 : Hid (∀ W, Calls Tryd.prog 12 #[.int .u16 (bits .and .u16 (b7 : Int) 255)] W fun e W' => e = .returned (.string u4) ∧ Below W.heap.size W W') := fun W => by rw [and255 b7 l7]; exact k4 W
                    have s1 := tenT_size hu1
                    have s2 := tenT_size hu2
                    have s3 := tenT_size hu3
                    have s4 := tenT_size hu4
                    have HU : Hid (bn u1 ++ 46 :: (bn u2 ++ 46 :: (bn u3 ++ 46 :: bn u4)) = dotT b6 b7) := by
                      show _ = _
                      rw [hu1, hu2, hu3, hu4]; rfl
                    clear TEN k1 k2 k3 k4 hu1 hu2 hu3 hu4
                    refine wp_region_quiet_in (by kernel_rfl) (by kernel_rfl) ?_
                    repeat (go_big_quiet_step ((first
                      | (go_at_call 12; with_reducible exact Later.call _ (KT1.out _))
                      | (go_at_call 12; with_reducible exact Later.call _ (KT2.out _))
                      | (go_at_call 12; with_reducible exact Later.call _ (KT3.out _))
                      | (go_at_call 12; with_reducible exact Later.call _ (KT4.out _))
                      | (go_at_call 12; trace_state; fail "x"))))
                    refine wpQuiet_nil ?_
                    rintro _ ⟨x, rfl⟩
                    have HRZ := hid ((x.h.block _ (lt_cell (HCB.out 0 (by decide)))).trans HRB.out)
                    have HBZ := hid (HBB.out.trans (x.h.mono HBB.out.size))
                    obtain ⟨w5, hw5⟩ : ∃ w5, x.W = w5 := ⟨_, rfl⟩
                    rw [hw5] at HRZ HBZ ⊢
                    clear hw5 x y6 y7 ix6 ix7 hne KT1 KT2 KT3 KT4 HRB HBB
                    have HSZ : Hid ((T ++ u1 ++ ⟨#[46]⟩ ++ u2 ++ ⟨#[46]⟩ ++ u3 ++ ⟨#[46]⟩ ++ u4).size ≤ 100) := by
                      show _ ≤ _
                      simp [ByteArray.size_append, colon_size, dot_size]; omega
                    have HPZ : Hid (prs (bn (T ++ u1 ++ ⟨#[46]⟩ ++ u2 ++ ⟨#[46]⟩ ++ u3 ++ ⟨#[46]⟩ ++ u4)) = some [b0, b1, b2, b3, b4, b5, b6, b7]) := by
                      show _ = _
                      have := HP6.out hk6n
                      rw [← HT.out] at this
                      rw [if_pos HMK.out.symm, List.append_nil] at this
                      rw [← this]
                      congr 1
                      show _ = _ ++ dotT b6 b7
                      rw [← HU.out]
                      simp [bn_append, bn_colon, bn_dot]
                    obtain ⟨S, hS⟩ : ∃ S, T ++ u1 ++ ⟨#[46]⟩ ++ u2 ++ ⟨#[46]⟩ ++ u3 ++ ⟨#[46]⟩ ++ u4 = S := ⟨_, rfl⟩
                    rw [hS] at HSZ HPZ ⊢
                    have hss := HSZ.out
                    clear hS HSZ HU s1 s2 s3 s4 HT hTs
                    have HPP : Hid (∀ W, G W → _) := fun W h => HC.out.cpIs (by omega) HPZ.out W h
                    obtain ⟨tb, htb⟩ : ∃ t, bn t = txt [b0, b1, b2, b3, b4, b5, b6, b7] := by
                      obtain ⟨e, w', fr, ⟨⟨t, _, ht⟩, _⟩, _⟩ := HC.out.ct _ w rfl HSB.out (HK.out _ (Below.refl _ _)) []
                      exact ⟨t, ht⟩
                    have HTX : Hid (∀ W, G W → Calls Tryd.prog 10 #[.agg #[.int .u16 b0, .int .u16 b1, .int .u16 b2, .int .u16 b3, .int .u16 b4, .int .u16 b5, .int .u16 b6, .int .u16 b7]] W fun e W' => e = .returned (.string tb) ∧ Below W.heap.size W W') := fun W h => HC.out.ctIs rfl HSB.out htb.symm W h
                    have eb := self_eq tb
                    have hqq : ∀ W, (binOp .eql 23 (.agg #[.int .u16 b0, .int .u16 b1, .int .u16 b2, .int .u16 b3, .int .u16 b4, .int .u16 b5, .int .u16 b6, .int .u16 b7]) (.agg #[.int .u16 b0, .int .u16 b1, .int .u16 b2, .int .u16 b3, .int .u16 b4, .int .u16 b5, .int .u16 b6, .int .u16 b7])).run Tryd.prog W = .ok (.bool true) W := fun W => by
                      have := eql_arr (X := [b0, b1, b2, b3, b4, b5, b6, b7]) (Y := [b0, b1, b2, b3, b4, b5, b6, b7]) rfl rfl W
                      simpa [u16s] using this
                    have hz0 : w.heap.size < w5.heap.size := lt_cell (cell_row (X := [b0, b1, b2, b3, b4, b5, b6, b7]) HRZ.out (j := 0) (by simp))
                    clear HC htb HPZ HSB HBS HCB HPL HPS HP6 HP8 HHX
                    go_wp2_with fail
                    refine (HPP.out _ (HK.out _ HBZ.out)).mono ?_
                    rintro e w6 ⟨rfl, B6⟩
                    have HR6 := hid ((B6.block _ hz0).trans HRZ.out)
                    have HB6 := hid (HBZ.out.trans (B6.mono HBZ.out.size))
                    have hz6 : w.heap.size < w6.heap.size := Nat.lt_of_lt_of_le hz0 B6.size
                    clear B6 HPP HRZ HBZ
                    have HR7 : Hid ((w6.alloc (.cells #[.int .u16 b0, .int .u16 b1, .int .u16 b2, .int .u16 b3, .int .u16 b4, .int .u16 b5, .int .u16 b6, .int .u16 b7] 23)).heap[w.heap.size]? = some (.cells #[.int .u16 b0, .int .u16 b1, .int .u16 b2, .int .u16 b3, .int .u16 b4, .int .u16 b5, .int .u16 b6, .int .u16 b7] 23)) := (((Below.refl w6.heap.size w6).alloc (Nat.le_refl _) (.cells #[.int .u16 b0, .int .u16 b1, .int .u16 b2, .int .u16 b3, .int .u16 b4, .int .u16 b5, .int .u16 b6, .int .u16 b7] 23)).block _ hz6).trans HR6.out
                    have HY7 : Hid ((w6.alloc (.cells #[.int .u16 b0, .int .u16 b1, .int .u16 b2, .int .u16 b3, .int .u16 b4, .int .u16 b5, .int .u16 b6, .int .u16 b7] 23)).heap[w6.heap.size]? = some (.cells #[.int .u16 b0, .int .u16 b1, .int .u16 b2, .int .u16 b3, .int .u16 b4, .int .u16 b5, .int .u16 b6, .int .u16 b7] 23)) := heap_alloc_last w6 _
                    have HB7 := hid (HB6.out.alloc HB6.out.size (.cells #[.int .u16 b0, .int .u16 b1, .int .u16 b2, .int .u16 b3, .int .u16 b4, .int .u16 b5, .int .u16 b6, .int .u16 b7] 23))
                    clear HR6 HB6
                    go_wp2_with fail
                    obtain ⟨w7, hw7⟩ : ∃ w7, w6.alloc (.cells #[.int .u16 b0, .int .u16 b1, .int .u16 b2, .int .u16 b3, .int .u16 b4, .int .u16 b5, .int .u16 b6, .int .u16 b7] 23) = w7 := ⟨_, rfl⟩
                    rw [hw7] at HR7 HY7 HB7 ⊢
                    clear hw7
                    have hne7 : Nonempty (Later w7) := ⟨⟨w7, Below.refl _ _⟩⟩
                    have za0 : ∀ x : Later w7, x.W.cell? ⟨w.heap.size, 0, none⟩ = some (.int .u16 b0) := fun x => (x.h.cell (p := ⟨w.heap.size, 0, none⟩) (lt_cell (cell_row (X := [b0, b1, b2, b3, b4, b5, b6, b7]) HR7.out (j := 0) (by simp)))).trans (cell_row (X := [b0, b1, b2, b3, b4, b5, b6, b7]) HR7.out (j := 0) (by simp))
                    have za1 : ∀ x : Later w7, x.W.cell? ⟨w.heap.size, 1, none⟩ = some (.int .u16 b1) := fun x => (x.h.cell (p := ⟨w.heap.size, 1, none⟩) (lt_cell (cell_row (X := [b0, b1, b2, b3, b4, b5, b6, b7]) HR7.out (j := 1) (by simp)))).trans (cell_row (X := [b0, b1, b2, b3, b4, b5, b6, b7]) HR7.out (j := 1) (by simp))
                    have za2 : ∀ x : Later w7, x.W.cell? ⟨w.heap.size, 2, none⟩ = some (.int .u16 b2) := fun x => (x.h.cell (p := ⟨w.heap.size, 2, none⟩) (lt_cell (cell_row (X := [b0, b1, b2, b3, b4, b5, b6, b7]) HR7.out (j := 2) (by simp)))).trans (cell_row (X := [b0, b1, b2, b3, b4, b5, b6, b7]) HR7.out (j := 2) (by simp))
                    have za3 : ∀ x : Later w7, x.W.cell? ⟨w.heap.size, 3, none⟩ = some (.int .u16 b3) := fun x => (x.h.cell (p := ⟨w.heap.size, 3, none⟩) (lt_cell (cell_row (X := [b0, b1, b2, b3, b4, b5, b6, b7]) HR7.out (j := 3) (by simp)))).trans (cell_row (X := [b0, b1, b2, b3, b4, b5, b6, b7]) HR7.out (j := 3) (by simp))
                    have za4 : ∀ x : Later w7, x.W.cell? ⟨w.heap.size, 4, none⟩ = some (.int .u16 b4) := fun x => (x.h.cell (p := ⟨w.heap.size, 4, none⟩) (lt_cell (cell_row (X := [b0, b1, b2, b3, b4, b5, b6, b7]) HR7.out (j := 4) (by simp)))).trans (cell_row (X := [b0, b1, b2, b3, b4, b5, b6, b7]) HR7.out (j := 4) (by simp))
                    have za5 : ∀ x : Later w7, x.W.cell? ⟨w.heap.size, 5, none⟩ = some (.int .u16 b5) := fun x => (x.h.cell (p := ⟨w.heap.size, 5, none⟩) (lt_cell (cell_row (X := [b0, b1, b2, b3, b4, b5, b6, b7]) HR7.out (j := 5) (by simp)))).trans (cell_row (X := [b0, b1, b2, b3, b4, b5, b6, b7]) HR7.out (j := 5) (by simp))
                    have za6 : ∀ x : Later w7, x.W.cell? ⟨w.heap.size, 6, none⟩ = some (.int .u16 b6) := fun x => (x.h.cell (p := ⟨w.heap.size, 6, none⟩) (lt_cell (cell_row (X := [b0, b1, b2, b3, b4, b5, b6, b7]) HR7.out (j := 6) (by simp)))).trans (cell_row (X := [b0, b1, b2, b3, b4, b5, b6, b7]) HR7.out (j := 6) (by simp))
                    have za7 : ∀ x : Later w7, x.W.cell? ⟨w.heap.size, 7, none⟩ = some (.int .u16 b7) := fun x => (x.h.cell (p := ⟨w.heap.size, 7, none⟩) (lt_cell (cell_row (X := [b0, b1, b2, b3, b4, b5, b6, b7]) HR7.out (j := 7) (by simp)))).trans (cell_row (X := [b0, b1, b2, b3, b4, b5, b6, b7]) HR7.out (j := 7) (by simp))
                    have zy0 : ∀ x : Later w7, x.W.cell? ⟨w6.heap.size, 0, none⟩ = some (.int .u16 b0) := fun x => (x.h.cell (p := ⟨w6.heap.size, 0, none⟩) (lt_cell (cell_row (X := [b0, b1, b2, b3, b4, b5, b6, b7]) HY7.out (j := 0) (by simp)))).trans (cell_row (X := [b0, b1, b2, b3, b4, b5, b6, b7]) HY7.out (j := 0) (by simp))
                    have zy1 : ∀ x : Later w7, x.W.cell? ⟨w6.heap.size, 1, none⟩ = some (.int .u16 b1) := fun x => (x.h.cell (p := ⟨w6.heap.size, 1, none⟩) (lt_cell (cell_row (X := [b0, b1, b2, b3, b4, b5, b6, b7]) HY7.out (j := 1) (by simp)))).trans (cell_row (X := [b0, b1, b2, b3, b4, b5, b6, b7]) HY7.out (j := 1) (by simp))
                    have zy2 : ∀ x : Later w7, x.W.cell? ⟨w6.heap.size, 2, none⟩ = some (.int .u16 b2) := fun x => (x.h.cell (p := ⟨w6.heap.size, 2, none⟩) (lt_cell (cell_row (X := [b0, b1, b2, b3, b4, b5, b6, b7]) HY7.out (j := 2) (by simp)))).trans (cell_row (X := [b0, b1, b2, b3, b4, b5, b6, b7]) HY7.out (j := 2) (by simp))
                    have zy3 : ∀ x : Later w7, x.W.cell? ⟨w6.heap.size, 3, none⟩ = some (.int .u16 b3) := fun x => (x.h.cell (p := ⟨w6.heap.size, 3, none⟩) (lt_cell (cell_row (X := [b0, b1, b2, b3, b4, b5, b6, b7]) HY7.out (j := 3) (by simp)))).trans (cell_row (X := [b0, b1, b2, b3, b4, b5, b6, b7]) HY7.out (j := 3) (by simp))
                    have zy4 : ∀ x : Later w7, x.W.cell? ⟨w6.heap.size, 4, none⟩ = some (.int .u16 b4) := fun x => (x.h.cell (p := ⟨w6.heap.size, 4, none⟩) (lt_cell (cell_row (X := [b0, b1, b2, b3, b4, b5, b6, b7]) HY7.out (j := 4) (by simp)))).trans (cell_row (X := [b0, b1, b2, b3, b4, b5, b6, b7]) HY7.out (j := 4) (by simp))
                    have zy5 : ∀ x : Later w7, x.W.cell? ⟨w6.heap.size, 5, none⟩ = some (.int .u16 b5) := fun x => (x.h.cell (p := ⟨w6.heap.size, 5, none⟩) (lt_cell (cell_row (X := [b0, b1, b2, b3, b4, b5, b6, b7]) HY7.out (j := 5) (by simp)))).trans (cell_row (X := [b0, b1, b2, b3, b4, b5, b6, b7]) HY7.out (j := 5) (by simp))
                    have zy6 : ∀ x : Later w7, x.W.cell? ⟨w6.heap.size, 6, none⟩ = some (.int .u16 b6) := fun x => (x.h.cell (p := ⟨w6.heap.size, 6, none⟩) (lt_cell (cell_row (X := [b0, b1, b2, b3, b4, b5, b6, b7]) HY7.out (j := 6) (by simp)))).trans (cell_row (X := [b0, b1, b2, b3, b4, b5, b6, b7]) HY7.out (j := 6) (by simp))
                    have zy7 : ∀ x : Later w7, x.W.cell? ⟨w6.heap.size, 7, none⟩ = some (.int .u16 b7) := fun x => (x.h.cell (p := ⟨w6.heap.size, 7, none⟩) (lt_cell (cell_row (X := [b0, b1, b2, b3, b4, b5, b6, b7]) HY7.out (j := 7) (by simp)))).trans (cell_row (X := [b0, b1, b2, b3, b4, b5, b6, b7]) HY7.out (j := 7) (by simp))
                    have hk7 : ∀ x : Later w7, Below w.heap.size w x.W := fun x => HB7.out.trans (x.h.mono HB7.out.size)
                    have K3 := hid (fun x : Later w7 => HTX.out x.W (HK.out _ (hk7 x)))
                    have K7 := hid (fun x : Later w7 => HW.out x.W (HK.out _ (hk7 x)))
                    have HKB := hid hk7
                    clear hk7 HTX HW HK HR7 HY7 HB7
                    refine wp_region_quiet_in (by kernel_rfl) (by kernel_rfl) ?_
                    repeat (go_big_quiet_step ((first | (go_at_call 10; exact Later.call _ (K3.out _)) | (go_at_call 7; exact Later.call _ (K7.out _)))))
                    refine wpQuiet_nil ?_
                    rintro _ ⟨x, rfl⟩
                    have HE := hid (HKB.out x)
                    obtain ⟨w8, hw8⟩ : ∃ w8, w8 = x.W := ⟨_, rfl⟩
                    rw [← hw8] at HE ⊢
                    clear hw8 x hne7 K3 K7 HKB za0 zy0 za1 zy1 za2 zy2 za3 zy3 za4 zy4 za5 zy5 za6 zy6 za7 zy7
                    go_wp2
                    go_ret
                    exact ⟨rfl, HE.out⟩
                  · have h6b : ((m : Int) == 6) = false := by simp; omega
                    clear h6
                    go_wp2_with fail
                    refine (HFM.out _).mono ?_
                    rintro e w5 ⟨⟨u, rfl, hu⟩, hw5⟩
                    obtain rfl := hw5.symm
                    have hus := hexTs hu
                    have HT2 := hid hu
                    clear hu
                    go_wp2
                    exact ⟨⟨m + 1, T ++ u, by omega, rfl, by go_num, by simp [ByteArray.size_append]; omega, by show _ = _; rw [HST.out]; simp [bn_append, HT.out, HT2.out, bn_colon, bn_colons]⟩, by simp [intOf] <;> omega⟩
              · rw [if_neg hmk] at HST
                have HMK := hid hmk
                have hmkb : ((m : Int) == (k : Int)) = false := by simp; omega
                cases dotted
                · go_wp2_with fail
                  refine (HFM.out _).mono ?_
                  rintro e w5 ⟨⟨u, rfl, hu⟩, hw5⟩
                  obtain rfl := hw5.symm
                  have hus := hexTs hu
                  have HT2 := hid hu
                  clear hu
                  go_wp2
                  exact ⟨⟨m + 1, T ++ ⟨#[58]⟩ ++ u, by omega, rfl, by go_num, by simp [ByteArray.size_append, colon_size]; omega, by show _ = _; rw [HST.out]; simp [bn_append, HT.out, HT2.out, bn_colon, bn_colons]⟩, by simp [intOf] <;> omega⟩
                · by_cases h6 : m = 6
                  · subst h6
                    have q6 : ((6 : Int) == (k : Int)) = false := by
                      simp; omega
                    have hk6 : ¬ (6 : Int) < (k : Int) := by omega
                    have hk6n : k ≤ 6 := by omega
                    have hi6 : ¬ (6 : Int) < (i : Int) := by omega
                    have hi6b : (i : Int) ≤ 6 := by omega
                    go_wp2_with fail
                    have hne : Nonempty (Later wr) := ⟨⟨wr, Below.refl _ _⟩⟩
                    have HR6 := HCB.out 6 (by decide)
                    have HR7 := HCB.out 7 (by decide)
                    have y6 : ∀ x : Later wr, x.W.cell? ⟨w.heap.size, 6, none⟩ = some (.int .u16 b6) := fun x => (x.h.cell (p := ⟨w.heap.size, 6, none⟩) (lt_cell HR6)).trans HR6
                    have y7 : ∀ x : Later wr, x.W.cell? ⟨w.heap.size, 7, none⟩ = some (.int .u16 b7) := fun x => (x.h.cell (p := ⟨w.heap.size, 7, none⟩) (lt_cell HR7)).trans HR7
                    have ix6 : ∀ W, (Instr.indexAt 23 (.pointer (some ⟨w.heap.size, 0, none⟩)) (.int .i64 6)).run Tryd.prog W = .ok (.pointer (some ⟨w.heap.size, 6, none⟩)) W := fun W => index8 w.heap.size 6 (by decide) W
                    have ix7 : ∀ W, (Instr.indexAt 23 (.pointer (some ⟨w.heap.size, 0, none⟩)) (.int .i64 7)).run Tryd.prog W = .ok (.pointer (some ⟨w.heap.size, 7, none⟩)) W := fun W => index8 w.heap.size 7 (by decide) W
                    have l6 : b6 < 65536 := HBS.out 6 (by decide)
                    have l7 : b7 < 65536 := HBS.out 7 (by decide)
                    clear HR6 HR7
                    have TEN : ∀ n : Nat, n < 256 → ∃ u : ByteArray, bn u = tenT n ∧ ∀ W, Calls Tryd.prog 12 #[.int .u16 n] W fun e W' => e = .returned (.string u) ∧ Below W.heap.size W W' := fun n hn => by
                      obtain ⟨e, w', fr, ⟨⟨u, _, hu⟩, _⟩, _⟩ := ten_any n hn w []
                      refine ⟨u, hu, fun W => (ten_any n hn W).mono ?_⟩
                      rintro e W' ⟨⟨u2, rfl, hu2⟩, hB⟩
                      obtain rfl := bn_inj (hu2.trans hu.symm)
                      exact ⟨rfl, hB⟩
                    obtain ⟨u1, hu1, k1⟩ := TEN (b6 / 256) (by omega)
                    obtain ⟨u2, hu2, k2⟩ := TEN (b6 % 256) (by omega)
                    obtain ⟨u3, hu3, k3⟩ := TEN (b7 / 256) (by omega)
                    obtain ⟨u4, hu4, k4⟩ := TEN (b7 % 256) (by omega)
                    have KT1 : Hid (∀ W, Calls Tryd.prog 12 #[.int .u16 ((b6 : Int) / 256)] W fun e W' => e = .returned (.string u1) ∧ Below W.heap.size W W') := k1
                    have KT2 : Hid (∀ W, Calls Tryd.prog 12 #[.int .u16 (bits .and .u16 (b6 : Int) 255)] W fun e W' => e = .returned (.string u2) ∧ Below W.heap.size W W') := fun W => by rw [and255 b6 l6]; exact k2 W
                    have KT3 : Hid (∀ W, Calls Tryd.prog 12 #[.int .u16 ((b7 : Int) / 256)] W fun e W' => e = .returned (.string u3) ∧ Below W.heap.size W W') := k3
                    have KT4 : Hid (∀ W, Calls Tryd.prog 12 #[.int .u16 (bits .and .u16 (b7 : Int) 255)] W fun e W' => e = .returned (.string u4) ∧ Below W.heap.size W W') := fun W => by rw [and255 b7 l7]; exact k4 W
                    have s1 := tenT_size hu1
                    have s2 := tenT_size hu2
                    have s3 := tenT_size hu3
                    have s4 := tenT_size hu4
                    have HU : Hid (bn u1 ++ 46 :: (bn u2 ++ 46 :: (bn u3 ++ 46 :: bn u4)) = dotT b6 b7) := by
                      show _ = _
                      rw [hu1, hu2, hu3, hu4]; rfl
                    clear TEN k1 k2 k3 k4 hu1 hu2 hu3 hu4
                    refine wp_region_quiet_in (by kernel_rfl) (by kernel_rfl) ?_
                    repeat (go_big_quiet_step ((first
                      | (go_at_call 12; with_reducible exact Later.call _ (KT1.out _))
                      | (go_at_call 12; with_reducible exact Later.call _ (KT2.out _))
                      | (go_at_call 12; with_reducible exact Later.call _ (KT3.out _))
                      | (go_at_call 12; with_reducible exact Later.call _ (KT4.out _))
                      | (go_at_call 12; trace_state; fail "x"))))
                    refine wpQuiet_nil ?_
                    rintro _ ⟨x, rfl⟩
                    have HRZ := hid ((x.h.block _ (lt_cell (HCB.out 0 (by decide)))).trans HRB.out)
                    have HBZ := hid (HBB.out.trans (x.h.mono HBB.out.size))
                    obtain ⟨w5, hw5⟩ : ∃ w5, x.W = w5 := ⟨_, rfl⟩
                    rw [hw5] at HRZ HBZ ⊢
                    clear hw5 x y6 y7 ix6 ix7 hne KT1 KT2 KT3 KT4 HRB HBB
                    have HSZ : Hid (((T ++ ⟨#[58]⟩) ++ u1 ++ ⟨#[46]⟩ ++ u2 ++ ⟨#[46]⟩ ++ u3 ++ ⟨#[46]⟩ ++ u4).size ≤ 100) := by
                      show _ ≤ _
                      simp [ByteArray.size_append, colon_size, dot_size]; omega
                    have HPZ : Hid (prs (bn ((T ++ ⟨#[58]⟩) ++ u1 ++ ⟨#[46]⟩ ++ u2 ++ ⟨#[46]⟩ ++ u3 ++ ⟨#[46]⟩ ++ u4)) = some [b0, b1, b2, b3, b4, b5, b6, b7]) := by
                      show _ = _
                      have := HP6.out hk6n
                      rw [← HT.out] at this
                      rw [if_neg (fun h => HMK.out h.symm)] at this
                      rw [← this]
                      congr 1
                      show _ = _ ++ dotT b6 b7
                      rw [← HU.out]
                      simp [bn_append, bn_colon, bn_dot]
                    obtain ⟨S, hS⟩ : ∃ S, (T ++ ⟨#[58]⟩) ++ u1 ++ ⟨#[46]⟩ ++ u2 ++ ⟨#[46]⟩ ++ u3 ++ ⟨#[46]⟩ ++ u4 = S := ⟨_, rfl⟩
                    rw [hS] at HSZ HPZ ⊢
                    have hss := HSZ.out
                    clear hS HSZ HU s1 s2 s3 s4 HT hTs
                    have HPP : Hid (∀ W, G W → _) := fun W h => HC.out.cpIs (by omega) HPZ.out W h
                    obtain ⟨tb, htb⟩ : ∃ t, bn t = txt [b0, b1, b2, b3, b4, b5, b6, b7] := by
                      obtain ⟨e, w', fr, ⟨⟨t, _, ht⟩, _⟩, _⟩ := HC.out.ct _ w rfl HSB.out (HK.out _ (Below.refl _ _)) []
                      exact ⟨t, ht⟩
                    have HTX : Hid (∀ W, G W → Calls Tryd.prog 10 #[.agg #[.int .u16 b0, .int .u16 b1, .int .u16 b2, .int .u16 b3, .int .u16 b4, .int .u16 b5, .int .u16 b6, .int .u16 b7]] W fun e W' => e = .returned (.string tb) ∧ Below W.heap.size W W') := fun W h => HC.out.ctIs rfl HSB.out htb.symm W h
                    have eb := self_eq tb
                    have hqq : ∀ W, (binOp .eql 23 (.agg #[.int .u16 b0, .int .u16 b1, .int .u16 b2, .int .u16 b3, .int .u16 b4, .int .u16 b5, .int .u16 b6, .int .u16 b7]) (.agg #[.int .u16 b0, .int .u16 b1, .int .u16 b2, .int .u16 b3, .int .u16 b4, .int .u16 b5, .int .u16 b6, .int .u16 b7])).run Tryd.prog W = .ok (.bool true) W := fun W => by
                      have := eql_arr (X := [b0, b1, b2, b3, b4, b5, b6, b7]) (Y := [b0, b1, b2, b3, b4, b5, b6, b7]) rfl rfl W
                      simpa [u16s] using this
                    have hz0 : w.heap.size < w5.heap.size := lt_cell (cell_row (X := [b0, b1, b2, b3, b4, b5, b6, b7]) HRZ.out (j := 0) (by simp))
                    clear HC htb HPZ HSB HBS HCB HPL HPS HP6 HP8 HHX
                    go_wp2_with fail
                    refine (HPP.out _ (HK.out _ HBZ.out)).mono ?_
                    rintro e w6 ⟨rfl, B6⟩
                    have HR6 := hid ((B6.block _ hz0).trans HRZ.out)
                    have HB6 := hid (HBZ.out.trans (B6.mono HBZ.out.size))
                    have hz6 : w.heap.size < w6.heap.size := Nat.lt_of_lt_of_le hz0 B6.size
                    clear B6 HPP HRZ HBZ
                    have HR7 : Hid ((w6.alloc (.cells #[.int .u16 b0, .int .u16 b1, .int .u16 b2, .int .u16 b3, .int .u16 b4, .int .u16 b5, .int .u16 b6, .int .u16 b7] 23)).heap[w.heap.size]? = some (.cells #[.int .u16 b0, .int .u16 b1, .int .u16 b2, .int .u16 b3, .int .u16 b4, .int .u16 b5, .int .u16 b6, .int .u16 b7] 23)) := (((Below.refl w6.heap.size w6).alloc (Nat.le_refl _) (.cells #[.int .u16 b0, .int .u16 b1, .int .u16 b2, .int .u16 b3, .int .u16 b4, .int .u16 b5, .int .u16 b6, .int .u16 b7] 23)).block _ hz6).trans HR6.out
                    have HY7 : Hid ((w6.alloc (.cells #[.int .u16 b0, .int .u16 b1, .int .u16 b2, .int .u16 b3, .int .u16 b4, .int .u16 b5, .int .u16 b6, .int .u16 b7] 23)).heap[w6.heap.size]? = some (.cells #[.int .u16 b0, .int .u16 b1, .int .u16 b2, .int .u16 b3, .int .u16 b4, .int .u16 b5, .int .u16 b6, .int .u16 b7] 23)) := heap_alloc_last w6 _
                    have HB7 := hid (HB6.out.alloc HB6.out.size (.cells #[.int .u16 b0, .int .u16 b1, .int .u16 b2, .int .u16 b3, .int .u16 b4, .int .u16 b5, .int .u16 b6, .int .u16 b7] 23))
                    clear HR6 HB6
                    go_wp2_with fail
                    obtain ⟨w7, hw7⟩ : ∃ w7, w6.alloc (.cells #[.int .u16 b0, .int .u16 b1, .int .u16 b2, .int .u16 b3, .int .u16 b4, .int .u16 b5, .int .u16 b6, .int .u16 b7] 23) = w7 := ⟨_, rfl⟩
                    rw [hw7] at HR7 HY7 HB7 ⊢
                    clear hw7
                    have hne7 : Nonempty (Later w7) := ⟨⟨w7, Below.refl _ _⟩⟩
                    have za0 : ∀ x : Later w7, x.W.cell? ⟨w.heap.size, 0, none⟩ = some (.int .u16 b0) := fun x => (x.h.cell (p := ⟨w.heap.size, 0, none⟩) (lt_cell (cell_row (X := [b0, b1, b2, b3, b4, b5, b6, b7]) HR7.out (j := 0) (by simp)))).trans (cell_row (X := [b0, b1, b2, b3, b4, b5, b6, b7]) HR7.out (j := 0) (by simp))
                    have za1 : ∀ x : Later w7, x.W.cell? ⟨w.heap.size, 1, none⟩ = some (.int .u16 b1) := fun x => (x.h.cell (p := ⟨w.heap.size, 1, none⟩) (lt_cell (cell_row (X := [b0, b1, b2, b3, b4, b5, b6, b7]) HR7.out (j := 1) (by simp)))).trans (cell_row (X := [b0, b1, b2, b3, b4, b5, b6, b7]) HR7.out (j := 1) (by simp))
                    have za2 : ∀ x : Later w7, x.W.cell? ⟨w.heap.size, 2, none⟩ = some (.int .u16 b2) := fun x => (x.h.cell (p := ⟨w.heap.size, 2, none⟩) (lt_cell (cell_row (X := [b0, b1, b2, b3, b4, b5, b6, b7]) HR7.out (j := 2) (by simp)))).trans (cell_row (X := [b0, b1, b2, b3, b4, b5, b6, b7]) HR7.out (j := 2) (by simp))
                    have za3 : ∀ x : Later w7, x.W.cell? ⟨w.heap.size, 3, none⟩ = some (.int .u16 b3) := fun x => (x.h.cell (p := ⟨w.heap.size, 3, none⟩) (lt_cell (cell_row (X := [b0, b1, b2, b3, b4, b5, b6, b7]) HR7.out (j := 3) (by simp)))).trans (cell_row (X := [b0, b1, b2, b3, b4, b5, b6, b7]) HR7.out (j := 3) (by simp))
                    have za4 : ∀ x : Later w7, x.W.cell? ⟨w.heap.size, 4, none⟩ = some (.int .u16 b4) := fun x => (x.h.cell (p := ⟨w.heap.size, 4, none⟩) (lt_cell (cell_row (X := [b0, b1, b2, b3, b4, b5, b6, b7]) HR7.out (j := 4) (by simp)))).trans (cell_row (X := [b0, b1, b2, b3, b4, b5, b6, b7]) HR7.out (j := 4) (by simp))
                    have za5 : ∀ x : Later w7, x.W.cell? ⟨w.heap.size, 5, none⟩ = some (.int .u16 b5) := fun x => (x.h.cell (p := ⟨w.heap.size, 5, none⟩) (lt_cell (cell_row (X := [b0, b1, b2, b3, b4, b5, b6, b7]) HR7.out (j := 5) (by simp)))).trans (cell_row (X := [b0, b1, b2, b3, b4, b5, b6, b7]) HR7.out (j := 5) (by simp))
                    have za6 : ∀ x : Later w7, x.W.cell? ⟨w.heap.size, 6, none⟩ = some (.int .u16 b6) := fun x => (x.h.cell (p := ⟨w.heap.size, 6, none⟩) (lt_cell (cell_row (X := [b0, b1, b2, b3, b4, b5, b6, b7]) HR7.out (j := 6) (by simp)))).trans (cell_row (X := [b0, b1, b2, b3, b4, b5, b6, b7]) HR7.out (j := 6) (by simp))
                    have za7 : ∀ x : Later w7, x.W.cell? ⟨w.heap.size, 7, none⟩ = some (.int .u16 b7) := fun x => (x.h.cell (p := ⟨w.heap.size, 7, none⟩) (lt_cell (cell_row (X := [b0, b1, b2, b3, b4, b5, b6, b7]) HR7.out (j := 7) (by simp)))).trans (cell_row (X := [b0, b1, b2, b3, b4, b5, b6, b7]) HR7.out (j := 7) (by simp))
                    have zy0 : ∀ x : Later w7, x.W.cell? ⟨w6.heap.size, 0, none⟩ = some (.int .u16 b0) := fun x => (x.h.cell (p := ⟨w6.heap.size, 0, none⟩) (lt_cell (cell_row (X := [b0, b1, b2, b3, b4, b5, b6, b7]) HY7.out (j := 0) (by simp)))).trans (cell_row (X := [b0, b1, b2, b3, b4, b5, b6, b7]) HY7.out (j := 0) (by simp))
                    have zy1 : ∀ x : Later w7, x.W.cell? ⟨w6.heap.size, 1, none⟩ = some (.int .u16 b1) := fun x => (x.h.cell (p := ⟨w6.heap.size, 1, none⟩) (lt_cell (cell_row (X := [b0, b1, b2, b3, b4, b5, b6, b7]) HY7.out (j := 1) (by simp)))).trans (cell_row (X := [b0, b1, b2, b3, b4, b5, b6, b7]) HY7.out (j := 1) (by simp))
                    have zy2 : ∀ x : Later w7, x.W.cell? ⟨w6.heap.size, 2, none⟩ = some (.int .u16 b2) := fun x => (x.h.cell (p := ⟨w6.heap.size, 2, none⟩) (lt_cell (cell_row (X := [b0, b1, b2, b3, b4, b5, b6, b7]) HY7.out (j := 2) (by simp)))).trans (cell_row (X := [b0, b1, b2, b3, b4, b5, b6, b7]) HY7.out (j := 2) (by simp))
                    have zy3 : ∀ x : Later w7, x.W.cell? ⟨w6.heap.size, 3, none⟩ = some (.int .u16 b3) := fun x => (x.h.cell (p := ⟨w6.heap.size, 3, none⟩) (lt_cell (cell_row (X := [b0, b1, b2, b3, b4, b5, b6, b7]) HY7.out (j := 3) (by simp)))).trans (cell_row (X := [b0, b1, b2, b3, b4, b5, b6, b7]) HY7.out (j := 3) (by simp))
                    have zy4 : ∀ x : Later w7, x.W.cell? ⟨w6.heap.size, 4, none⟩ = some (.int .u16 b4) := fun x => (x.h.cell (p := ⟨w6.heap.size, 4, none⟩) (lt_cell (cell_row (X := [b0, b1, b2, b3, b4, b5, b6, b7]) HY7.out (j := 4) (by simp)))).trans (cell_row (X := [b0, b1, b2, b3, b4, b5, b6, b7]) HY7.out (j := 4) (by simp))
                    have zy5 : ∀ x : Later w7, x.W.cell? ⟨w6.heap.size, 5, none⟩ = some (.int .u16 b5) := fun x => (x.h.cell (p := ⟨w6.heap.size, 5, none⟩) (lt_cell (cell_row (X := [b0, b1, b2, b3, b4, b5, b6, b7]) HY7.out (j := 5) (by simp)))).trans (cell_row (X := [b0, b1, b2, b3, b4, b5, b6, b7]) HY7.out (j := 5) (by simp))
                    have zy6 : ∀ x : Later w7, x.W.cell? ⟨w6.heap.size, 6, none⟩ = some (.int .u16 b6) := fun x => (x.h.cell (p := ⟨w6.heap.size, 6, none⟩) (lt_cell (cell_row (X := [b0, b1, b2, b3, b4, b5, b6, b7]) HY7.out (j := 6) (by simp)))).trans (cell_row (X := [b0, b1, b2, b3, b4, b5, b6, b7]) HY7.out (j := 6) (by simp))
                    have zy7 : ∀ x : Later w7, x.W.cell? ⟨w6.heap.size, 7, none⟩ = some (.int .u16 b7) := fun x => (x.h.cell (p := ⟨w6.heap.size, 7, none⟩) (lt_cell (cell_row (X := [b0, b1, b2, b3, b4, b5, b6, b7]) HY7.out (j := 7) (by simp)))).trans (cell_row (X := [b0, b1, b2, b3, b4, b5, b6, b7]) HY7.out (j := 7) (by simp))
                    have hk7 : ∀ x : Later w7, Below w.heap.size w x.W := fun x => HB7.out.trans (x.h.mono HB7.out.size)
                    have K3 := hid (fun x : Later w7 => HTX.out x.W (HK.out _ (hk7 x)))
                    have K7 := hid (fun x : Later w7 => HW.out x.W (HK.out _ (hk7 x)))
                    have HKB := hid hk7
                    clear hk7 HTX HW HK HR7 HY7 HB7
                    refine wp_region_quiet_in (by kernel_rfl) (by kernel_rfl) ?_
                    repeat (go_big_quiet_step ((first | (go_at_call 10; exact Later.call _ (K3.out _)) | (go_at_call 7; exact Later.call _ (K7.out _)))))
                    refine wpQuiet_nil ?_
                    rintro _ ⟨x, rfl⟩
                    have HE := hid (HKB.out x)
                    obtain ⟨w8, hw8⟩ : ∃ w8, w8 = x.W := ⟨_, rfl⟩
                    rw [← hw8] at HE ⊢
                    clear hw8 x hne7 K3 K7 HKB za0 zy0 za1 zy1 za2 zy2 za3 zy3 za4 zy4 za5 zy5 za6 zy6 za7 zy7
                    go_wp2
                    go_ret
                    exact ⟨rfl, HE.out⟩
                  · have h6b : ((m : Int) == 6) = false := by simp; omega
                    clear h6
                    go_wp2_with fail
                    refine (HFM.out _).mono ?_
                    rintro e w5 ⟨⟨u, rfl, hu⟩, hw5⟩
                    obtain rfl := hw5.symm
                    have hus := hexTs hu
                    have HT2 := hid hu
                    clear hu
                    go_wp2
                    exact ⟨⟨m + 1, T ++ ⟨#[58]⟩ ++ u, by omega, rfl, by go_num, by simp [ByteArray.size_append, colon_size]; omega, by show _ = _; rw [HST.out]; simp [bn_append, HT.out, HT2.out, bn_colon, bn_colons]⟩, by simp [intOf] <;> omega⟩
        · have hltz : ¬ (m : Int) < 8 := by omega
          obtain rfl : m = 8 := by omega
          rw [← HT.out] at HP8
          have HPZ := hid HP8.out
          have HRZ := hid HRB.out
          have HBZ := hid HBB.out
          clear HRB HBB HT
          have HPP : Hid (∀ W, G W → _) := fun W h => HC.out.cpIs (by omega) HPZ.out W h
          obtain ⟨tb, htb⟩ : ∃ t, bn t = txt [b0, b1, b2, b3, b4, b5, b6, b7] := by
            obtain ⟨e, w', fr, ⟨⟨t, _, ht⟩, _⟩, _⟩ := HC.out.ct _ w rfl HSB.out (HK.out _ (Below.refl _ _)) []
            exact ⟨t, ht⟩
          have HTX : Hid (∀ W, G W → Calls Tryd.prog 10 #[.agg #[.int .u16 b0, .int .u16 b1, .int .u16 b2, .int .u16 b3, .int .u16 b4, .int .u16 b5, .int .u16 b6, .int .u16 b7]] W fun e W' => e = .returned (.string tb) ∧ Below W.heap.size W W') := fun W h => HC.out.ctIs rfl HSB.out htb.symm W h
          have eb := self_eq tb
          have hqq : ∀ W, (binOp .eql 23 (.agg #[.int .u16 b0, .int .u16 b1, .int .u16 b2, .int .u16 b3, .int .u16 b4, .int .u16 b5, .int .u16 b6, .int .u16 b7]) (.agg #[.int .u16 b0, .int .u16 b1, .int .u16 b2, .int .u16 b3, .int .u16 b4, .int .u16 b5, .int .u16 b6, .int .u16 b7])).run Tryd.prog W = .ok (.bool true) W := fun W => by
            have := eql_arr (X := [b0, b1, b2, b3, b4, b5, b6, b7]) (Y := [b0, b1, b2, b3, b4, b5, b6, b7]) rfl rfl W
            simpa [u16s] using this
          have hz0 : w.heap.size < wr.heap.size := lt_cell (cell_row (X := [b0, b1, b2, b3, b4, b5, b6, b7]) HRZ.out (j := 0) (by simp))
          clear HC htb HPZ HSB HBS HCB HPL HPS HP6 HP8 HHX
          go_wp2_with fail
          refine (HPP.out _ (HK.out _ HBZ.out)).mono ?_
          rintro e w6 ⟨rfl, B6⟩
          have HR6 := hid ((B6.block _ hz0).trans HRZ.out)
          have HB6 := hid (HBZ.out.trans (B6.mono HBZ.out.size))
          have hz6 : w.heap.size < w6.heap.size := Nat.lt_of_lt_of_le hz0 B6.size
          clear B6 HPP HRZ HBZ
          have HR7 : Hid ((w6.alloc (.cells #[.int .u16 b0, .int .u16 b1, .int .u16 b2, .int .u16 b3, .int .u16 b4, .int .u16 b5, .int .u16 b6, .int .u16 b7] 23)).heap[w.heap.size]? = some (.cells #[.int .u16 b0, .int .u16 b1, .int .u16 b2, .int .u16 b3, .int .u16 b4, .int .u16 b5, .int .u16 b6, .int .u16 b7] 23)) := (((Below.refl w6.heap.size w6).alloc (Nat.le_refl _) (.cells #[.int .u16 b0, .int .u16 b1, .int .u16 b2, .int .u16 b3, .int .u16 b4, .int .u16 b5, .int .u16 b6, .int .u16 b7] 23)).block _ hz6).trans HR6.out
          have HY7 : Hid ((w6.alloc (.cells #[.int .u16 b0, .int .u16 b1, .int .u16 b2, .int .u16 b3, .int .u16 b4, .int .u16 b5, .int .u16 b6, .int .u16 b7] 23)).heap[w6.heap.size]? = some (.cells #[.int .u16 b0, .int .u16 b1, .int .u16 b2, .int .u16 b3, .int .u16 b4, .int .u16 b5, .int .u16 b6, .int .u16 b7] 23)) := heap_alloc_last w6 _
          have HB7 := hid (HB6.out.alloc HB6.out.size (.cells #[.int .u16 b0, .int .u16 b1, .int .u16 b2, .int .u16 b3, .int .u16 b4, .int .u16 b5, .int .u16 b6, .int .u16 b7] 23))
          clear HR6 HB6
          go_wp2_with fail
          obtain ⟨w7, hw7⟩ : ∃ w7, w6.alloc (.cells #[.int .u16 b0, .int .u16 b1, .int .u16 b2, .int .u16 b3, .int .u16 b4, .int .u16 b5, .int .u16 b6, .int .u16 b7] 23) = w7 := ⟨_, rfl⟩
          rw [hw7] at HR7 HY7 HB7 ⊢
          clear hw7
          have hne7 : Nonempty (Later w7) := ⟨⟨w7, Below.refl _ _⟩⟩
          have za0 : ∀ x : Later w7, x.W.cell? ⟨w.heap.size, 0, none⟩ = some (.int .u16 b0) := fun x => (x.h.cell (p := ⟨w.heap.size, 0, none⟩) (lt_cell (cell_row (X := [b0, b1, b2, b3, b4, b5, b6, b7]) HR7.out (j := 0) (by simp)))).trans (cell_row (X := [b0, b1, b2, b3, b4, b5, b6, b7]) HR7.out (j := 0) (by simp))
          have za1 : ∀ x : Later w7, x.W.cell? ⟨w.heap.size, 1, none⟩ = some (.int .u16 b1) := fun x => (x.h.cell (p := ⟨w.heap.size, 1, none⟩) (lt_cell (cell_row (X := [b0, b1, b2, b3, b4, b5, b6, b7]) HR7.out (j := 1) (by simp)))).trans (cell_row (X := [b0, b1, b2, b3, b4, b5, b6, b7]) HR7.out (j := 1) (by simp))
          have za2 : ∀ x : Later w7, x.W.cell? ⟨w.heap.size, 2, none⟩ = some (.int .u16 b2) := fun x => (x.h.cell (p := ⟨w.heap.size, 2, none⟩) (lt_cell (cell_row (X := [b0, b1, b2, b3, b4, b5, b6, b7]) HR7.out (j := 2) (by simp)))).trans (cell_row (X := [b0, b1, b2, b3, b4, b5, b6, b7]) HR7.out (j := 2) (by simp))
          have za3 : ∀ x : Later w7, x.W.cell? ⟨w.heap.size, 3, none⟩ = some (.int .u16 b3) := fun x => (x.h.cell (p := ⟨w.heap.size, 3, none⟩) (lt_cell (cell_row (X := [b0, b1, b2, b3, b4, b5, b6, b7]) HR7.out (j := 3) (by simp)))).trans (cell_row (X := [b0, b1, b2, b3, b4, b5, b6, b7]) HR7.out (j := 3) (by simp))
          have za4 : ∀ x : Later w7, x.W.cell? ⟨w.heap.size, 4, none⟩ = some (.int .u16 b4) := fun x => (x.h.cell (p := ⟨w.heap.size, 4, none⟩) (lt_cell (cell_row (X := [b0, b1, b2, b3, b4, b5, b6, b7]) HR7.out (j := 4) (by simp)))).trans (cell_row (X := [b0, b1, b2, b3, b4, b5, b6, b7]) HR7.out (j := 4) (by simp))
          have za5 : ∀ x : Later w7, x.W.cell? ⟨w.heap.size, 5, none⟩ = some (.int .u16 b5) := fun x => (x.h.cell (p := ⟨w.heap.size, 5, none⟩) (lt_cell (cell_row (X := [b0, b1, b2, b3, b4, b5, b6, b7]) HR7.out (j := 5) (by simp)))).trans (cell_row (X := [b0, b1, b2, b3, b4, b5, b6, b7]) HR7.out (j := 5) (by simp))
          have za6 : ∀ x : Later w7, x.W.cell? ⟨w.heap.size, 6, none⟩ = some (.int .u16 b6) := fun x => (x.h.cell (p := ⟨w.heap.size, 6, none⟩) (lt_cell (cell_row (X := [b0, b1, b2, b3, b4, b5, b6, b7]) HR7.out (j := 6) (by simp)))).trans (cell_row (X := [b0, b1, b2, b3, b4, b5, b6, b7]) HR7.out (j := 6) (by simp))
          have za7 : ∀ x : Later w7, x.W.cell? ⟨w.heap.size, 7, none⟩ = some (.int .u16 b7) := fun x => (x.h.cell (p := ⟨w.heap.size, 7, none⟩) (lt_cell (cell_row (X := [b0, b1, b2, b3, b4, b5, b6, b7]) HR7.out (j := 7) (by simp)))).trans (cell_row (X := [b0, b1, b2, b3, b4, b5, b6, b7]) HR7.out (j := 7) (by simp))
          have zy0 : ∀ x : Later w7, x.W.cell? ⟨w6.heap.size, 0, none⟩ = some (.int .u16 b0) := fun x => (x.h.cell (p := ⟨w6.heap.size, 0, none⟩) (lt_cell (cell_row (X := [b0, b1, b2, b3, b4, b5, b6, b7]) HY7.out (j := 0) (by simp)))).trans (cell_row (X := [b0, b1, b2, b3, b4, b5, b6, b7]) HY7.out (j := 0) (by simp))
          have zy1 : ∀ x : Later w7, x.W.cell? ⟨w6.heap.size, 1, none⟩ = some (.int .u16 b1) := fun x => (x.h.cell (p := ⟨w6.heap.size, 1, none⟩) (lt_cell (cell_row (X := [b0, b1, b2, b3, b4, b5, b6, b7]) HY7.out (j := 1) (by simp)))).trans (cell_row (X := [b0, b1, b2, b3, b4, b5, b6, b7]) HY7.out (j := 1) (by simp))
          have zy2 : ∀ x : Later w7, x.W.cell? ⟨w6.heap.size, 2, none⟩ = some (.int .u16 b2) := fun x => (x.h.cell (p := ⟨w6.heap.size, 2, none⟩) (lt_cell (cell_row (X := [b0, b1, b2, b3, b4, b5, b6, b7]) HY7.out (j := 2) (by simp)))).trans (cell_row (X := [b0, b1, b2, b3, b4, b5, b6, b7]) HY7.out (j := 2) (by simp))
          have zy3 : ∀ x : Later w7, x.W.cell? ⟨w6.heap.size, 3, none⟩ = some (.int .u16 b3) := fun x => (x.h.cell (p := ⟨w6.heap.size, 3, none⟩) (lt_cell (cell_row (X := [b0, b1, b2, b3, b4, b5, b6, b7]) HY7.out (j := 3) (by simp)))).trans (cell_row (X := [b0, b1, b2, b3, b4, b5, b6, b7]) HY7.out (j := 3) (by simp))
          have zy4 : ∀ x : Later w7, x.W.cell? ⟨w6.heap.size, 4, none⟩ = some (.int .u16 b4) := fun x => (x.h.cell (p := ⟨w6.heap.size, 4, none⟩) (lt_cell (cell_row (X := [b0, b1, b2, b3, b4, b5, b6, b7]) HY7.out (j := 4) (by simp)))).trans (cell_row (X := [b0, b1, b2, b3, b4, b5, b6, b7]) HY7.out (j := 4) (by simp))
          have zy5 : ∀ x : Later w7, x.W.cell? ⟨w6.heap.size, 5, none⟩ = some (.int .u16 b5) := fun x => (x.h.cell (p := ⟨w6.heap.size, 5, none⟩) (lt_cell (cell_row (X := [b0, b1, b2, b3, b4, b5, b6, b7]) HY7.out (j := 5) (by simp)))).trans (cell_row (X := [b0, b1, b2, b3, b4, b5, b6, b7]) HY7.out (j := 5) (by simp))
          have zy6 : ∀ x : Later w7, x.W.cell? ⟨w6.heap.size, 6, none⟩ = some (.int .u16 b6) := fun x => (x.h.cell (p := ⟨w6.heap.size, 6, none⟩) (lt_cell (cell_row (X := [b0, b1, b2, b3, b4, b5, b6, b7]) HY7.out (j := 6) (by simp)))).trans (cell_row (X := [b0, b1, b2, b3, b4, b5, b6, b7]) HY7.out (j := 6) (by simp))
          have zy7 : ∀ x : Later w7, x.W.cell? ⟨w6.heap.size, 7, none⟩ = some (.int .u16 b7) := fun x => (x.h.cell (p := ⟨w6.heap.size, 7, none⟩) (lt_cell (cell_row (X := [b0, b1, b2, b3, b4, b5, b6, b7]) HY7.out (j := 7) (by simp)))).trans (cell_row (X := [b0, b1, b2, b3, b4, b5, b6, b7]) HY7.out (j := 7) (by simp))
          have hk7 : ∀ x : Later w7, Below w.heap.size w x.W := fun x => HB7.out.trans (x.h.mono HB7.out.size)
          have K3 := hid (fun x : Later w7 => HTX.out x.W (HK.out _ (hk7 x)))
          have K7 := hid (fun x : Later w7 => HW.out x.W (HK.out _ (hk7 x)))
          have HKB := hid hk7
          clear hk7 HTX HW HK HR7 HY7 HB7
          refine wp_region_quiet_in (by kernel_rfl) (by kernel_rfl) ?_
          repeat (go_big_quiet_step ((first | (go_at_call 10; exact Later.call _ (K3.out _)) | (go_at_call 7; exact Later.call _ (K7.out _)))))
          refine wpQuiet_nil ?_
          rintro _ ⟨x, rfl⟩
          have HE := hid (HKB.out x)
          obtain ⟨w8, hw8⟩ : ∃ w8, w8 = x.W := ⟨_, rfl⟩
          rw [← hw8] at HE ⊢
          clear hw8 x hne7 K3 K7 HKB za0 zy0 za1 zy1 za2 zy2 za3 zy3 za4 zy4 za5 zy5 za6 zy6 za7 zy7
          go_wp2
          go_ret
          exact ⟨rfl, HE.out⟩
theorem back_walk {G : World → Prop} (C : Ctr G) (a0 a1 a2 a3 a4 a5 a6 a7 : Nat) (x y : Int) (cap nts dotted : Bool) (w : World) (hG : G w) (hS : Small [a0, a1, a2, a3, a4, a5, a6, a7]) (hx : (Lit.int .u8 x).wf = true) (hy : (Lit.int .u8 y).wf = true) :
    Calls Tryd.prog 4 #[.agg #[.int .u16 a0, .int .u16 a1, .int .u16 a2, .int .u16 a3, .int .u16 a4, .int .u16 a5, .int .u16 a6, .int .u16 a7], .int .u8 x, .int .u8 y, .bool cap, .bool nts, .bool dotted] w fun e W' => e = .returned (.bool true) ∧ Below w.heap.size w W' := by
  have bd : ∀ z : Int, (Lit.int .u8 z).wf = true → 0 ≤ z ∧ z ≤ 255 := fun z hz => by
    simp [Lit.wf, IntKind.min, IntKind.max, IntKind.bits, IntKind.signed] at hz
    omega
  have hx2 := bd x hx
  have hy2 := bd y hy
  obtain ⟨fr, rfl⟩ : ∃ n : Nat, x = (n : Int) := ⟨x.toNat, by omega⟩
  obtain ⟨to, rfl⟩ : ∃ n : Nat, y = (n : Int) := ⟨y.toNat, by omega⟩
  by_cases h : fr % 8 < to % 9
  · exact back_gap C a0 a1 a2 a3 a4 a5 a6 a7 fr to cap nts dotted w hG hS (by omega) (by omega) h
  · exact back_none C a0 a1 a2 a3 a4 a5 a6 a7 fr to cap nts dotted w hG hS (by omega) (by omega) h
end Go.Proofs.YtpkmpebhlolhaaaDoor.X
