/- The document's Text. (Stage 11; written by tools/r11/xj.py.) -/
import Derived.Test.YtpkmpebhlolhaaaDoorXI
namespace Go.Proofs.YtpkmpebhlolhaaaDoor.X
open Go.RowKit
open Go.Proofs.YtpkmpebhlolhaaaDoor.F (hx hx_bd vl bn bn_length bn_append bn_inj bn_get byte_bd hid bn_extract isEmpty_false isEmpty_true str_eq same_eq)
set_option linter.unusedVariables false

theorem colon_size : (⟨#[58]⟩ : ByteArray).size = 1 := rfl
theorem colons_size : (⟨#[58, 58]⟩ : ByteArray).size = 2 := rfl
theorem bn_colon : bn ⟨#[58]⟩ = [58] := by decide
theorem bn_colons : bn ⟨#[58, 58]⟩ = [58, 58] := by decide
theorem hexT_size {t : ByteArray} {n : Nat} (h : bn t = hexT false false n) : t.size ≤ 4 := by
  have := (hexT_len false false n).2
  rw [← h, bn_length] at this
  exact this
theorem nv_get {a : List Nat} {j : Nat} (h : j < a.length) : nv a j = a[j]?.getD 0 := by unfold nv; rw [List.getElem?_eq_getElem h]; rfl
theorem cell_in (w : World) (t : TypeId) (X : List Nat) {W : World} (hB : Below (w.heap.size + 1) (w.alloc (.cells (u16s X).toArray t)) W) {j : Nat} (hj : j < X.length) : W.cell? ⟨w.heap.size, j, none⟩ = some (.int .u16 ((X[j]?.getD 0 : Nat) : Int)) := by
  refine (hB.cell (p := ⟨w.heap.size, j, none⟩) (Nat.lt_succ_self _)).trans (cell_alloc w t (u16s X) j _ ?_)
  unfold u16s
  rw [List.getElem?_map, List.getElem?_eq_getElem hj]; rfl
def TxtR (a : List Nat) (w : World) (e : Ending) (W' : World) : Prop := (∃ t, e = .returned (.string t) ∧ bn t = txt a) ∧ Below w.heap.size w W'
theorem bs_bd (a : List Nat) (hl : a.length = 8) (i : Nat) (hi : i ≤ 8) : -1 ≤ (bs a i).1 ∧ (bs a i).1 < 8 ∧ (bs a i).2 ≤ 8 ∧ 1 ≤ (bs a i).2 := by
  rcases bs_inv a i with ⟨h1, h2, _⟩ | ⟨p, h0, h1, h2, h3⟩
  · rw [h1, h2]; omega
  · have := zr_le a p
    rw [h1, h2]; omega
set_option maxRecDepth 100000 in
set_option maxHeartbeats 8000000 in
theorem rtext_any (a0 a1 a2 a3 a4 a5 a6 a7 : Nat) (hs : Small [a0, a1, a2, a3, a4, a5, a6, a7]) (w : World) (hT : Tab w) :
    Calls Tryd.prog 11 #[.agg #[.int .u16 a0, .int .u16 a1, .int .u16 a2, .int .u16 a3, .int .u16 a4, .int .u16 a5, .int .u16 a6, .int .u16 a7]] w fun e W' => TxtR [a0, a1, a2, a3, a4, a5, a6, a7] w e W' := by
  have HGS : Hid (∀ e W, ((∃ t, e = .returned (.string t) ∧ bn t = txt [a0, a1, a2, a3, a4, a5, a6, a7]) ∧ Below w.heap.size w W) → TxtR [a0, a1, a2, a3, a4, a5, a6, a7] w e W) := fun e W h => h
  have HCE : Hid (∀ W, Below (w.heap.size + 1) (w.alloc (.cells #[.int .u16 a0, .int .u16 a1, .int .u16 a2, .int .u16 a3, .int .u16 a4, .int .u16 a5, .int .u16 a6, .int .u16 a7] 23)) W → ∀ j, j < 8 → W.cell? ⟨w.heap.size, j, none⟩ = some (.int .u16 (([a0, a1, a2, a3, a4, a5, a6, a7][j]?.getD 0 : Nat) : Int))) := fun W h j hj => cell_in w _ [a0, a1, a2, a3, a4, a5, a6, a7] h hj
  have HB0 : Hid (Below w.heap.size w (w.alloc (.cells #[.int .u16 a0, .int .u16 a1, .int .u16 a2, .int .u16 a3, .int .u16 a4, .int .u16 a5, .int .u16 a6, .int .u16 a7] 23))) := (Below.refl _ _).alloc (Nat.le_refl _) _
  have HZ : Hid ((w.alloc (.cells #[.int .u16 a0, .int .u16 a1, .int .u16 a2, .int .u16 a3, .int .u16 a4, .int .u16 a5, .int .u16 a6, .int .u16 a7] 23)).heap.size = w.heap.size + 1) := by show _ = _; simp
  have HL8 : Hid ([a0, a1, a2, a3, a4, a5, a6, a7].length = 8) := rfl
  have hgt := lt_cell hT
  have HTB : Hid (∀ W, Below (w.heap.size + 1) (w.alloc (.cells #[.int .u16 a0, .int .u16 a1, .int .u16 a2, .int .u16 a3, .int .u16 a4, .int .u16 a5, .int .u16 a6, .int .u16 a7] 23)) W → Tab W) := fun W h => hT.below (HB0.out.trans (h.mono (Nat.le_succ _))) (Nat.le_refl _)
  have HSM := hid hs
  obtain ⟨a, ha⟩ : ∃ a, [a0, a1, a2, a3, a4, a5, a6, a7] = a := ⟨_, rfl⟩
  rw [ha] at HGS HCE HL8 HSM ⊢
  have HBD : Hid (∀ i, i ≤ 8 → _) := fun i (h : i ≤ 8) => bs_bd a HL8.out i h
  have HNV : Hid (∀ j, j < 8 → nv a j = a[j]?.getD 0) := fun j hj => nv_get (by rw [HL8.out]; exact hj)
  have HSV : Hid (∀ j, j < 8 → a[j]?.getD 0 < 65536) := fun j hj => by
    rw [List.getElem?_eq_getElem (by rw [HL8.out]; exact hj)]
    exact HSM.out _ (List.getElem_mem _)
  have HPS : Hid (∀ j, j < 8 → (a.map (hexT false false))[j]?.getD [] = hexT false false (a[j]?.getD 0)) := fun j hj => by
    rw [List.getElem?_map, List.getElem?_eq_getElem (by rw [HL8.out]; exact hj)]; rfl
  have HPL : Hid ((a.map (hexT false false)).length = 8) := by show _ = _; rw [List.length_map]; exact HL8.out
  have HTX : Hid (txt a = if (bs a 8).1 < 0 then joinB 58 (a.map (hexT false false)) else gp (a.map (hexT false false)) (bs a 8).1.toNat ((bs a 8).1.toNat + (bs a 8).2) 8) := rfl
  clear hs
  go_enter Tryd.func11, Tryd.ntmps11
  go_wp2_with fail
  obtain ⟨w1, hw1⟩ : ∃ w1, w.alloc (.cells #[.int .u16 a0, .int .u16 a1, .int .u16 a2, .int .u16 a3, .int .u16 a4, .int .u16 a5, .int .u16 a6, .int .u16 a7] 23) = w1 := ⟨_, rfl⟩
  rw [hw1] at HCE HB0 HZ HTB ⊢
  obtain ⟨arg, harg⟩ : ∃ v : Value, Value.agg #[.int .u16 a0, .int .u16 a1, .int .u16 a2, .int .u16 a3, .int .u16 a4, .int .u16 a5, .int .u16 a6, .int .u16 a7] = v := ⟨_, rfl⟩
  rw [harg]
  clear hw1 ha harg hT hgt
  have hz1 : w.heap.size + 1 ≤ w1.heap.size := Nat.le_of_eq HZ.out.symm
  have HBZ : Hid (Below (w.heap.size + 1) w1 w1) := Below.refl _ _
  go_loop [3, 4, 5] (fun v3 v4 v5 => ∃ (i mo : Nat) (at' : Int), i ≤ 8 ∧ -1 ≤ at' ∧ at' < 8 ∧ mo ≤ 8 ∧ v3 = .int .i64 at' ∧ v4 = .int .i64 mo ∧ v5 = .int .i64 i ∧ Hid (bs a i = (at', mo))) (fun _ _ v5 => 8 - (intOf v5).toNat)
  case atStart => exact ⟨0, 1, -1, by omega, by omega, by omega, by omega, rfl, rfl, rfl, rfl⟩
  case round =>
    obtain ⟨i, mo, at', hi, hat0, hat1, hmo, rfl, rfl, rfl, HBS⟩ := hrel
    by_cases hlt : i < 8
    · have hltz : (i : Int) < 8 := by omega
      have HNX : Hid (bs a (i + 1) = if mo < zr a i then ((i : Int), zr a i) else (at', mo)) := by
        show _ = _
        rw [bs, HBS.out]
      have HZE : Hid (∀ n, i + n ≤ 8 → (∀ j, j < n → nv a (i + j) = 0) → (i + n = 8 ∨ nv a (i + n) ≠ 0) → zr a i = n) := fun n => zr_eq HL8.out
      clear HBS
      go_wp2_with fail
      go_loop [6] (fun v6 => ∃ n : Nat, i + n ≤ 8 ∧ v6 = .int .i64 n ∧ Hid (∀ j, j < n → nv a (i + j) = 0)) (fun v6 => 8 - (intOf v6).toNat)
      case atStart => exact ⟨0, by omega, rfl, (fun j h => by omega)⟩
      case round =>
        obtain ⟨n, hn, rfl, HA⟩ := hrel
        by_cases hin : i + n < 8
        · have hinz : (i : Int) + (n : Int) < 8 := by omega
          have hc := HCE.out _ HBZ.out (i + n) hin
          have HV := hid (HNV.out (i + n) hin)
          obtain ⟨x, hx⟩ : ∃ x, a[i + n]?.getD 0 = x := ⟨_, rfl⟩
          rw [hx] at hc HV
          clear hx
          by_cases h0 : x = 0
          · subst h0
            have HA2 : Hid (∀ j, j < n + 1 → nv a (i + j) = 0) := fun j hj => by
              by_cases e : j = n
              · rw [e]; exact HV.out
              · exact HA.out j (by omega)
            clear HA HV
            go_wp2
            exact ⟨⟨n + 1, by omega, by go_num, HA2⟩, by simp [intOf]; omega⟩
          · have hxb : ((x : Int) == 0) = false := by simp; exact h0
            have HZN := hid (HZE.out n hn HA.out (.inr (by rw [HV.out]; exact h0)))
            rw [HZN.out] at HNX
            clear HA HV h0 HZN HZE
            by_cases hgt : mo < n
            · have HN2 := hid (HNX.out.trans (if_pos hgt))
              have hgz : (mo : Int) < (n : Int) := by omega
              clear HNX
              go_wp2
              exact ⟨⟨i + 1, n, (i : Int), by omega, by omega, by omega, by omega, rfl, rfl, by go_num, HN2⟩, by simp [intOf]; omega⟩
            · have HN2 := hid (HNX.out.trans (if_neg hgt))
              have hgz : ¬ (mo : Int) < (n : Int) := by omega
              clear HNX
              go_wp2
              exact ⟨⟨i + 1, mo, at', by omega, by omega, by omega, by omega, rfl, rfl, by go_num, HN2⟩, by simp [intOf]; omega⟩
        · have hinz : ¬ (i : Int) + (n : Int) < 8 := by omega
          have HZN := hid (HZE.out n hn HA.out (.inl (by omega)))
          rw [HZN.out] at HNX
          clear HA HZN HZE
          by_cases hgt : mo < n
          · have HN2 := hid (HNX.out.trans (if_pos hgt))
            have hgz : (mo : Int) < (n : Int) := by omega
            clear HNX
            go_wp2
            exact ⟨⟨i + 1, n, (i : Int), by omega, by omega, by omega, by omega, rfl, rfl, by go_num, HN2⟩, by simp [intOf]; omega⟩
          · have HN2 := hid (HNX.out.trans (if_neg hgt))
            have hgz : ¬ (mo : Int) < (n : Int) := by omega
            clear HNX
            go_wp2
            exact ⟨⟨i + 1, mo, at', by omega, by omega, by omega, by omega, rfl, rfl, by go_num, HN2⟩, by simp [intOf]; omega⟩
    · have hltz : ¬ (i : Int) < 8 := by omega
      obtain rfl : i = 8 := by omega
      have HAT : Hid (txt a = if at' < 0 then joinB 58 (a.map (hexT false false)) else gp (a.map (hexT false false)) at'.toNat (at'.toNat + mo) 8) := by
        show _ = _
        rw [HTX.out, HBS.out]
      have HMO : Hid (1 ≤ mo) := by
        have := (HBD.out 8 (Nat.le_refl _)).2.2.2
        rw [HBS.out] at this
        exact this
      have hm1 := HMO.out
      obtain ⟨ps, hps⟩ : ∃ ps, a.map (hexT false false) = ps := ⟨_, rfl⟩
      rw [hps] at HAT HPS HPL
      clear HBS HTX HBD HMO hps HNV
      by_cases hneg : at' < 0
      · obtain rfl : at' = -1 := by omega
        have HEN : Hid (txt a = gp ps 8 9 8) := by
          show _ = _
          rw [HAT.out, if_pos hneg, gp_none (Nat.le_refl _) (Nat.le_of_eq HPL.out)]
        clear HAT
        go_wp2_with fail
        go_loopw [7, 8] (fun v7 v8 wr => ∃ (i : Nat) (T : ByteArray), i ≤ 8 ∧ v7 = .string T ∧ v8 = .int .i64 i ∧ T.size ≤ 6 * i ∧ Hid (bn T = gp ps 8 9 i) ∧ Hid (Below (w.heap.size + 1) w1 wr)) (fun _ v8 _ => 8 - (intOf v8).toNat)
        case atStart => exact ⟨0, ⟨#[]⟩, by omega, rfl, rfl, Nat.le_refl _, by show _ = _; rw [gp_zero]; rfl, HBZ⟩
        case round =>
          obtain ⟨i, T, hi, rfl, rfl, hTs, HT, HB⟩ := hrel
          have zj : w.heap.size + 1 ≤ wr.heap.size := Nat.le_trans hz1 HB.out.size
          by_cases hlt : i < 8
          · have hltz : (i : Int) < 8 := by omega
            have hc := HCE.out _ HB.out i hlt
            have hv := HSV.out i hlt
            have HST := hid (gp_lt (ps := ps) (i := 8) (k := 9) hlt (by rw [HPL.out]; exact hlt))
            rw [HPS.out i hlt] at HST
            obtain ⟨v, hv1⟩ : ∃ v, a[i]?.getD 0 = v := ⟨_, rfl⟩
            rw [hv1] at hc hv HST
            have HFM : Hid (∀ W, Tab W → _) := fun W h => format_any v hv W h
            clear hv1
            by_cases h0 : i = 0
            · subst h0
              rw [if_neg (by decide), List.append_nil] at HST
              go_wp2_with fail
              refine (HFM.out _ (HTB.out _ HB.out)).mono ?_
              rintro e w2 ⟨⟨t, rfl, ht⟩, B2⟩
              have hts := hexT_size ht
              have HT2 := hid ht
              have HB2 := hid (HB.out.trans (B2.mono zj))
              clear ht B2
              go_wp2_with fail
              go_roundw
              case rel => exact ⟨0 + 1, T ++ t, by omega, rfl, by go_num, by simp [ByteArray.size_append]; omega, by show _ = _; rw [HST.out]; simp [bn_append, HT.out, HT2.out], HB2⟩
              case measure => simp [intOf]
            · rw [if_pos (by omega)] at HST
              have h0z : (0 : Int) < (i : Int) := by omega
              have hne : ((i : Int) != -1 + (mo : Int)) = true ∨ ((i : Int) != -1 + (mo : Int)) = false := by cases ((i : Int) != -1 + (mo : Int)) <;> simp
              rcases hne with hne | hne
              · clear h0
                go_wp2_with fail
                refine (HFM.out _ (HTB.out _ HB.out)).mono ?_
                rintro e w2 ⟨⟨t, rfl, ht⟩, B2⟩
                have hts := hexT_size ht
                have HT2 := hid ht
                have HB2 := hid (HB.out.trans (B2.mono zj))
                clear ht B2
                go_wp2_with fail
                go_roundw
                case rel => exact ⟨i + 1, T ++ ⟨#[58]⟩ ++ t, by omega, rfl, by go_num, by simp [ByteArray.size_append, colon_size]; omega, by show _ = _; rw [HST.out]; simp [bn_append, HT.out, HT2.out, bn_colon], HB2⟩
                case measure => simp [intOf]; omega
              · clear h0
                go_wp2_with fail
                refine (HFM.out _ (HTB.out _ HB.out)).mono ?_
                rintro e w2 ⟨⟨t, rfl, ht⟩, B2⟩
                have hts := hexT_size ht
                have HT2 := hid ht
                have HB2 := hid (HB.out.trans (B2.mono zj))
                clear ht B2
                go_wp2_with fail
                go_roundw
                case rel => exact ⟨i + 1, T ++ ⟨#[58]⟩ ++ t, by omega, rfl, by go_num, by simp [ByteArray.size_append, colon_size]; omega, by show _ = _; rw [HST.out]; simp [bn_append, HT.out, HT2.out, bn_colon], HB2⟩
                case measure => simp [intOf]; omega
          · have hltz : ¬ (i : Int) < 8 := by omega
            obtain rfl : i = 8 := by omega
            have HF : Hid (bn T = txt a) := HT.out.trans HEN.out.symm
            have HBL := hid (HB0.out.trans (HB.out.mono (Nat.le_succ _)))
            clear HT HEN
            go_wp2
            go_ret
            exact HGS.out _ _ ⟨⟨T, rfl, HF.out⟩, HBL.out⟩
      · obtain ⟨p, rfl⟩ : ∃ p : Nat, at' = (p : Int) := ⟨at'.toNat, by omega⟩
        have HEN : Hid (txt a = gp ps p (p + mo) 8) := by
          show _ = _
          rw [HAT.out, if_neg hneg, Int.toNat_natCast]
        have hp0 : (0 : Int) ≤ (p : Int) := by omega
        clear HAT hneg
        go_wp2_with fail
        go_loopw [7, 8] (fun v7 v8 wr => ∃ (i : Nat) (T : ByteArray), i ≤ 8 ∧ v7 = .string T ∧ v8 = .int .i64 i ∧ T.size ≤ 6 * i ∧ Hid (bn T = gp ps p (p + mo) i) ∧ Hid (Below (w.heap.size + 1) w1 wr)) (fun _ v8 _ => 8 - (intOf v8).toNat)
        case atStart => exact ⟨0, ⟨#[]⟩, by omega, rfl, rfl, Nat.le_refl _, by show _ = _; rw [gp_zero]; rfl, HBZ⟩
        case round =>
          obtain ⟨i, T, hi, rfl, rfl, hTs, HT, HB⟩ := hrel
          have zj : w.heap.size + 1 ≤ wr.heap.size := Nat.le_trans hz1 HB.out.size
          by_cases hlt : i < 8
          · have hltz : (i : Int) < 8 := by omega
            have hc := HCE.out _ HB.out i hlt
            have hv := HSV.out i hlt
            have HS1 : Hid (i < p → gp ps p (p + mo) (i + 1) = gp ps p (p + mo) i ++ (if 0 < i then [58] else []) ++ ps[i]?.getD []) := fun h => gp_lt h (by rw [HPL.out]; exact hlt)
            have HS2 : Hid (i = p → gp ps p (p + mo) (i + 1) = gp ps p (p + mo) i ++ [58, 58]) := fun h => by rw [h]; exact gp_at (by omega)
            have HS3 : Hid (p < i → i < p + mo → gp ps p (p + mo) (i + 1) = gp ps p (p + mo) i) := fun h h2 => gp_in h h2
            have HS4 : Hid (p + mo ≤ i → gp ps p (p + mo) (i + 1) = gp ps p (p + mo) i ++ (if i = p + mo then [] else [58]) ++ ps[i]?.getD []) := fun h => gp_ge (by omega) h (by rw [HPL.out]; exact hlt)
            rw [HPS.out i hlt] at HS1 HS4
            obtain ⟨v, hv1⟩ : ∃ v, a[i]?.getD 0 = v := ⟨_, rfl⟩
            rw [hv1] at hc hv HS1 HS4
            have HFM : Hid (∀ W, Tab W → _) := fun W h => format_any v hv W h
            clear hv1
            by_cases c1 : i < p
            · have HST := hid (HS1.out c1)
              have c1z : ¬ (p : Int) ≤ (i : Int) := by omega
              have hne : ((i : Int) != (p : Int) + (mo : Int)) = true := by simp; omega
              clear HS1 HS2 HS3 HS4
              by_cases h0 : i = 0
              · subst h0
                rw [if_neg (by decide), List.append_nil] at HST
                go_wp2_with fail
                refine (HFM.out _ (HTB.out _ HB.out)).mono ?_
                rintro e w2 ⟨⟨t, rfl, ht⟩, B2⟩
                have hts := hexT_size ht
                have HT2 := hid ht
                have HB2 := hid (HB.out.trans (B2.mono zj))
                clear ht B2
                go_wp2_with fail
                go_roundw
                case rel => exact ⟨0 + 1, T ++ t, by omega, rfl, by go_num, by simp [ByteArray.size_append]; omega, by show _ = _; rw [HST.out]; simp [bn_append, HT.out, HT2.out], HB2⟩
                case measure => simp [intOf]
              · rw [if_pos (by omega)] at HST
                have h0z : (0 : Int) < (i : Int) := by omega
                clear h0
                go_wp2_with fail
                refine (HFM.out _ (HTB.out _ HB.out)).mono ?_
                rintro e w2 ⟨⟨t, rfl, ht⟩, B2⟩
                have hts := hexT_size ht
                have HT2 := hid ht
                have HB2 := hid (HB.out.trans (B2.mono zj))
                clear ht B2
                go_wp2_with fail
                go_roundw
                case rel => exact ⟨i + 1, T ++ ⟨#[58]⟩ ++ t, by omega, rfl, by go_num, by simp [ByteArray.size_append, colon_size]; omega, by show _ = _; rw [HST.out]; simp [bn_append, HT.out, HT2.out, bn_colon], HB2⟩
                case measure => simp [intOf]; omega
            by_cases c2 : i = p
            · have HST := hid (HS2.out c2)
              have c2b : ((i : Int) == (p : Int)) = true := by simp; omega
              have c2z : (p : Int) ≤ (i : Int) := by omega
              have c3z : (i : Int) < (p : Int) + (mo : Int) := by omega
              clear HS1 HS2 HS3 HS4 c2 c1
              go_wp2_with fail
              go_roundw
              case rel => exact ⟨i + 1, T ++ ⟨#[58, 58]⟩, by omega, rfl, by go_num, by simp [ByteArray.size_append, colons_size]; omega, by show _ = _; rw [HST.out]; simp [bn_append, HT.out, bn_colons], HB⟩
              case measure => simp [intOf]; omega
            by_cases c3 : i < p + mo
            · have HST := hid (HS3.out (by omega) c3)
              have c2b : ((i : Int) == (p : Int)) = false := by simp; omega
              have c2z : (p : Int) ≤ (i : Int) := by omega
              have c3z : (i : Int) < (p : Int) + (mo : Int) := by omega
              clear HS1 HS2 HS3 HS4 c2 c1
              go_wp2_with fail
              go_roundw
              case rel => exact ⟨i + 1, T, by omega, rfl, by go_num, by omega, by show _ = _; rw [HST.out]; exact HT.out, HB⟩
              case measure => simp [intOf]; omega
            · have HST := hid (HS4.out (by omega))
              have c2z : (p : Int) ≤ (i : Int) := by omega
              have c3z : ¬ (i : Int) < (p : Int) + (mo : Int) := by omega
              have h0z : (0 : Int) < (i : Int) := by omega
              have hpn : ¬ (p : Int) < 0 := by omega
              clear HS1 HS2 HS3 HS4 c2 c1
              by_cases c4 : i = p + mo
              · rw [if_pos c4, List.append_nil] at HST
                have hne : ((i : Int) != (p : Int) + (mo : Int)) = false := by simp; omega
                clear c4
                go_wp2_with fail
                refine (HFM.out _ (HTB.out _ HB.out)).mono ?_
                rintro e w2 ⟨⟨t, rfl, ht⟩, B2⟩
                have hts := hexT_size ht
                have HT2 := hid ht
                have HB2 := hid (HB.out.trans (B2.mono zj))
                clear ht B2
                go_wp2_with fail
                go_roundw
                case rel => exact ⟨i + 1, T ++ t, by omega, rfl, by go_num, by simp [ByteArray.size_append]; omega, by show _ = _; rw [HST.out]; simp [bn_append, HT.out, HT2.out], HB2⟩
                case measure => simp [intOf]; omega
              · rw [if_neg c4] at HST
                have hne : ((i : Int) != (p : Int) + (mo : Int)) = true := by simp; omega
                clear c4
                go_wp2_with fail
                refine (HFM.out _ (HTB.out _ HB.out)).mono ?_
                rintro e w2 ⟨⟨t, rfl, ht⟩, B2⟩
                have hts := hexT_size ht
                have HT2 := hid ht
                have HB2 := hid (HB.out.trans (B2.mono zj))
                clear ht B2
                go_wp2_with fail
                go_roundw
                case rel => exact ⟨i + 1, T ++ ⟨#[58]⟩ ++ t, by omega, rfl, by go_num, by simp [ByteArray.size_append, colon_size]; omega, by show _ = _; rw [HST.out]; simp [bn_append, HT.out, HT2.out, bn_colon], HB2⟩
                case measure => simp [intOf]; omega
          · have hltz : ¬ (i : Int) < 8 := by omega
            obtain rfl : i = 8 := by omega
            have HF : Hid (bn T = txt a) := HT.out.trans HEN.out.symm
            have HBL := hid (HB0.out.trans (HB.out.mono (Nat.le_succ _)))
            clear HT HEN
            go_wp2
            go_ret
            exact HGS.out _ _ ⟨⟨T, rfl, HF.out⟩, HBL.out⟩
end Go.Proofs.YtpkmpebhlolhaaaDoor.X
