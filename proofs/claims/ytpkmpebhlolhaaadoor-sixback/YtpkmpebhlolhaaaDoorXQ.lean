/- SixBack's walk. (Stage 11; written by tools/r11/xq.py.) -/
import Derived.Test.YtpkmpebhlolhaaaDoorXP
import Derived.Deep.RegionWith
import Derived.Laws.BitsAllLaws
namespace Go.Proofs.YtpkmpebhlolhaaaDoor.X
open Go.RowKit
open Go.Proofs.YtpkmpebhlolhaaaDoor.F (hx hx_bd vl bn bn_length bn_append bn_inj bn_get byte_bd hid bn_extract isEmpty_false isEmpty_true str_eq same_eq)
set_option linter.unusedVariables false
set_option linter.unusedSimpArgs false

theorem dot_size : (⟨#[46]⟩ : ByteArray).size = 1 := rfl
theorem bn_dot : bn ⟨#[46]⟩ = [46] := by decide
theorem and255 (n : Nat) (h : n < 65536) : bits .and .u16 (n : Int) 255 = ((n % 256 : Nat) : Int) := by
  have := u16_and_nat n 255 h (by decide)
  rw [show ((255 : Nat) : Int) = 255 from rfl] at this
  rw [this, show n &&& 255 = n % 256 from Nat.and_two_pow_sub_one_eq_mod n 8]
theorem full_none {cap nts : Bool} {B : List Nat} (hl : B.length = 8) (hs : Small B) : prs (gp (B.map (hexT cap nts)) 8 9 8) = some B := by
  rw [gp_none (Nat.le_refl _) (by rw [List.length_map, hl]; exact Nat.le_refl _), read_row hs, if_pos hl]
theorem full_gap {cap nts : Bool} {B : List Nat} {i k : Nat} (hl : B.length = 8) (hs : Small B) (hik : i < k) (hk : k ≤ 8) (hz : ∀ j, i ≤ j → j < k → B[j]?.getD 1 = 0) : prs (gp (B.map (hexT cap nts)) i k 8) = some B := by
  rw [gp_all (by omega) (by rw [List.length_map, hl]; exact Nat.le_refl _), ← List.map_take, ← List.map_drop, read_gap (hs.take i) (hs.drop k), List.length_take, List.length_drop, if_pos (by omega), show 8 - (B.length - k) - min i B.length = k - i by omega, zero_mid hl (by omega) hk hz]
theorem six_two {B : List Nat} (hl : B.length = 8) : B.take 6 ++ [B[6]?.getD 0, B[7]?.getD 0] = B := by
  match B, hl with
  | [b0, b1, b2, b3, b4, b5, b6, b7], _ => rfl
theorem at_small {B : List Nat} (hs : Small B) {j : Nat} (hj : j < B.length) : B[j]?.getD 0 < 65536 := by
  rw [List.getElem?_eq_getElem hj]; exact hs _ (List.getElem_mem _)
theorem dot_none {cap nts : Bool} {B : List Nat} (hl : B.length = 8) (hs : Small B) : prs (gp (B.map (hexT cap nts)) 8 9 6 ++ [58] ++ dotT (B[6]?.getD 0) (B[7]?.getD 0)) = some B := by
  have e : gp (B.map (hexT cap nts)) 8 9 6 ++ [58] ++ dotT (B[6]?.getD 0) (B[7]?.getD 0) = joinB 58 ((B.take 6).map (hexT cap nts) ++ [dotT (B[6]?.getD 0) (B[7]?.getD 0)]) := by
    rw [join_snoc, List.map_take]
    unfold gp
    rw [Nat.min_eq_left (by decide), if_neg (by decide), if_neg (fun h => by have := congrArg List.length h; simp [hl] at this)]
    simp
  rw [e, read_row_dot (hs.take 6) (at_small hs (by omega)) (at_small hs (by omega)), List.length_take, if_pos (by omega), six_two hl]
theorem dot_gap {cap nts : Bool} {B : List Nat} {i k : Nat} (hl : B.length = 8) (hs : Small B) (hik : i < k) (hk : k ≤ 6) (hz : ∀ j, i ≤ j → j < k → B[j]?.getD 1 = 0) : prs (gp (B.map (hexT cap nts)) i k 6 ++ (if k = 6 then [] else [58]) ++ dotT (B[6]?.getD 0) (B[7]?.getD 0)) = some B := by
  have e : gp (B.map (hexT cap nts)) i k 6 ++ (if k = 6 then [] else [58]) ++ dotT (B[6]?.getD 0) (B[7]?.getD 0) = joinB 58 ((B.take i).map (hexT cap nts)) ++ 58 :: 58 :: joinB 58 (((B.take 6).drop k).map (hexT cap nts) ++ [dotT (B[6]?.getD 0) (B[7]?.getD 0)]) := by
    rw [join_snoc]
    unfold gp
    rw [Nat.min_eq_right (by omega), if_pos (by omega), List.map_take, List.map_drop, List.map_take]
    have he : (((B.map (hexT cap nts)).take 6).drop k = []) = (k = 6) := by
      apply propext
      rw [List.drop_eq_nil_iff, List.length_take, List.length_map]
      omega
    by_cases h6 : k = 6
    · rw [if_pos h6, if_pos (he.symm ▸ h6)]; simp
    · rw [if_neg h6, if_neg (he.symm ▸ h6)]; simp
  have e2 : (B.take 6).drop k ++ [B[6]?.getD 0, B[7]?.getD 0] = B.drop k := by
    rw [← List.drop_append_of_le_length (by rw [List.length_take]; omega), six_two hl]
  rw [e, read_gap_dot (hs.take i) ((hs.take 6).drop k) (at_small hs (by omega)) (at_small hs (by omega)), List.length_take, List.length_drop, List.length_take, if_pos (by omega), e2, show 8 - (min 6 B.length - k + 2) - min i B.length = k - i by omega, zero_mid hl (by omega) (by omega) hz]
theorem neq_arr {X : List Nat} (hX : X.length = 8) (W : World) : (binOp .neq 23 (.agg (u16s X).toArray) (.agg (u16s X).toArray)).run Tryd.prog W = .ok (.bool false) W := by
  rw [run_neq_struct, eq8 9998 _ _ (fun i => ((X[i]?.getD 0 : Nat) : Int)) (fun i => ((X[i]?.getD 0 : Nat) : Int)) (u16_at hX) (u16_at hX)]
  simp
/-- The noughts up to place m. -/
structure Zl (a X : List Nat) (i m : Nat) : Prop where
  len : X.length = 8
  at_ : ∀ j, X[j]?.getD 0 = if i ≤ j ∧ j < m then 0 else a[j]?.getD 0
theorem Zl.start {a : List Nat} (h : a.length = 8) (i : Nat) : Zl a a i i := ⟨h, fun j => by rw [if_neg (by omega)]⟩
theorem Zl.step {a X : List Nat} {i m : Nat} (H : Zl a X i m) (him : i ≤ m) (hm : m < 8) : Zl a (X.set m 0) i (m + 1) := by
  refine ⟨by rw [List.length_set]; exact H.len, fun j => ?_⟩
  by_cases e : j = m
  · rw [e, List.getElem?_set_self (by rw [H.len]; exact hm), if_pos (by omega)]; rfl
  · rw [List.getElem?_set_ne (by omega), H.at_ j]
    by_cases h2 : i ≤ j ∧ j < m
    · rw [if_pos h2, if_pos (by omega)]
    · rw [if_neg h2, if_neg (by omega)]
theorem Zl.small {a X : List Nat} {i m : Nat} (H : Zl a X i m) (ha : a.length = 8) (hs : Small a) : Small X := fun v hv => by
  obtain ⟨j, hj, rfl⟩ := List.mem_iff_getElem.1 hv
  have := H.at_ j
  rw [List.getElem?_eq_getElem hj] at this
  have hj8 : j < 8 := by rw [← H.len]; exact hj
  have e : X[j] = (if i ≤ j ∧ j < m then 0 else a[j]?.getD 0) := this
  rw [e]
  split
  · omega
  · exact at_small hs (by omega)
theorem Zl.zero {a X : List Nat} {i m : Nat} (H : Zl a X i m) (hm : m ≤ 8) : ∀ j, i ≤ j → j < m → X[j]?.getD 1 = 0 := fun j h1 h2 => by
  have := H.at_ j
  have hj : j < X.length := by rw [H.len]; omega
  rw [if_pos ⟨h1, h2⟩, List.getElem?_eq_getElem hj] at this
  rw [List.getElem?_eq_getElem hj]; exact this
set_option maxRecDepth 100000 in
set_option maxHeartbeats 16000000 in
theorem back_none {G : World → Prop} (C : Ctr G) (a0 a1 a2 a3 a4 a5 a6 a7 fr to : Nat) (cap nts dotted : Bool) (w : World) (hG : G w) (hS : Small [a0, a1, a2, a3, a4, a5, a6, a7]) (hfr : fr < 256) (hto : to < 256) (hno : ¬ fr % 8 < to % 9) :
    Calls Tryd.prog 4 #[.agg #[.int .u16 a0, .int .u16 a1, .int .u16 a2, .int .u16 a3, .int .u16 a4, .int .u16 a5, .int .u16 a6, .int .u16 a7], .int .u8 fr, .int .u8 to, .bool cap, .bool nts, .bool dotted] w fun e W' => e = .returned (.bool true) ∧ Below w.heap.size w W' := by
  have HL8 : Hid ([a0, a1, a2, a3, a4, a5, a6, a7].length = 8) := rfl
  obtain ⟨t, ht⟩ : ∃ t, bn t = txt [a0, a1, a2, a3, a4, a5, a6, a7] := by
    obtain ⟨e, w', fr, ⟨⟨t, _, ht⟩, _⟩, _⟩ := C.ct _ w HL8.out hS hG []
    exact ⟨t, ht⟩
  have hp : prs (bn t) = some [a0, a1, a2, a3, a4, a5, a6, a7] := by rw [ht]; exact prs_txt HL8.out hS
  have hts : t.size ≤ 39 := by rw [← bn_length, ht]; exact (txt_len HL8.out).2
  have HK : Hid (∀ W, Below w.heap.size w W → G W) := fun W h => C.keep w W hG h
  have HW : Hid (∀ W, G W → _) := fun W h => works_any C W h
  have H1 : Hid (∀ W, G W → Calls Tryd.prog 10 #[.agg #[.int .u16 a0, .int .u16 a1, .int .u16 a2, .int .u16 a3, .int .u16 a4, .int .u16 a5, .int .u16 a6, .int .u16 a7]] W fun e W' => e = .returned (.string t) ∧ Below W.heap.size W W') := fun W h => C.ctIs HL8.out hS ht.symm W h
  have H2 : Hid (∀ W, G W → _) := fun W h => C.cpIs (by omega) hp W h
  have HSM := hid hS
  have HC := hid C
  have hq : ∀ W, (binOp .neq 23 (.agg #[.int .u16 a0, .int .u16 a1, .int .u16 a2, .int .u16 a3, .int .u16 a4, .int .u16 a5, .int .u16 a6, .int .u16 a7]) (.agg #[.int .u16 a0, .int .u16 a1, .int .u16 a2, .int .u16 a3, .int .u16 a4, .int .u16 a5, .int .u16 a6, .int .u16 a7])).run Tryd.prog W = .ok (.bool false) W := fun W => neq_arr (X := [a0, a1, a2, a3, a4, a5, a6, a7]) HL8.out W
  have HB : Hid (Below w.heap.size w w) := Below.refl _ _
  clear C hG hS ht hp
  obtain ⟨i, hi⟩ : ∃ i : Nat, (fr : Int) % 8 = (i : Int) := ⟨fr % 8, by simp⟩
  obtain ⟨k, hk⟩ : ∃ k : Nat, (to : Int) % 9 = (k : Int) := ⟨to % 9, by simp⟩
  have hi8 : i < 8 := by omega
  have hk9 : k ≤ 8 := by omega
  go_enter Tryd.func4, Tryd.ntmps4
  go_wp2_with fail
  have HB0 := hid (HB.out.alloc HB.out.size (.cells #[.int .u16 a0, .int .u16 a1, .int .u16 a2, .int .u16 a3, .int .u16 a4, .int .u16 a5, .int .u16 a6, .int .u16 a7] 23))
  refine (H1.out _ (HK.out _ HB0.out)).mono ?_
  rintro e w1 ⟨rfl, B1⟩
  have HR1 : Hid (w1.heap[w.heap.size]? = some (.cells #[.int .u16 a0, .int .u16 a1, .int .u16 a2, .int .u16 a3, .int .u16 a4, .int .u16 a5, .int .u16 a6, .int .u16 a7] 23)) := (B1.block _ (by simp)).trans (heap_alloc_last w _)
  have HB1 := hid (HB0.out.trans (B1.mono HB0.out.size))
  have hz1 : w.heap.size < w1.heap.size := Nat.lt_of_lt_of_le (by simp) B1.size
  clear B1 H1 HB0 HB
  go_wp2_with fail
  refine (H2.out _ (HK.out _ HB1.out)).mono ?_
  rintro e w2 ⟨rfl, B2⟩
  have HR2 : Hid (w2.heap[w.heap.size]? = some (.cells #[.int .u16 a0, .int .u16 a1, .int .u16 a2, .int .u16 a3, .int .u16 a4, .int .u16 a5, .int .u16 a6, .int .u16 a7] 23)) := (B2.block _ hz1).trans HR1.out
  have HB2 := hid (HB1.out.trans (B2.mono HB1.out.size))
  have hz2 : w.heap.size < w2.heap.size := Nat.lt_of_lt_of_le hz1 B2.size
  clear B2 H2 HB1 HR1
  have HR3 : Hid ((w2.alloc (.cells #[.int .u16 a0, .int .u16 a1, .int .u16 a2, .int .u16 a3, .int .u16 a4, .int .u16 a5, .int .u16 a6, .int .u16 a7] 23)).heap[w.heap.size]? = some (.cells #[.int .u16 a0, .int .u16 a1, .int .u16 a2, .int .u16 a3, .int .u16 a4, .int .u16 a5, .int .u16 a6, .int .u16 a7] 23)) := (((Below.refl w2.heap.size w2).alloc (Nat.le_refl _) (.cells #[.int .u16 a0, .int .u16 a1, .int .u16 a2, .int .u16 a3, .int .u16 a4, .int .u16 a5, .int .u16 a6, .int .u16 a7] 23)).block _ hz2).trans HR2.out
  have HB3 := hid (HB2.out.alloc HB2.out.size (.cells #[.int .u16 a0, .int .u16 a1, .int .u16 a2, .int .u16 a3, .int .u16 a4, .int .u16 a5, .int .u16 a6, .int .u16 a7] 23))
  have c0 : (w2.alloc (.cells #[.int .u16 a0, .int .u16 a1, .int .u16 a2, .int .u16 a3, .int .u16 a4, .int .u16 a5, .int .u16 a6, .int .u16 a7] 23)).cell? ⟨w.heap.size, 0, none⟩ = some (.int .u16 a0) := cell_row (X := [a0, a1, a2, a3, a4, a5, a6, a7]) HR3.out (j := 0) (by simp)
  have c1 : (w2.alloc (.cells #[.int .u16 a0, .int .u16 a1, .int .u16 a2, .int .u16 a3, .int .u16 a4, .int .u16 a5, .int .u16 a6, .int .u16 a7] 23)).cell? ⟨w.heap.size, 1, none⟩ = some (.int .u16 a1) := cell_row (X := [a0, a1, a2, a3, a4, a5, a6, a7]) HR3.out (j := 1) (by simp)
  have c2 : (w2.alloc (.cells #[.int .u16 a0, .int .u16 a1, .int .u16 a2, .int .u16 a3, .int .u16 a4, .int .u16 a5, .int .u16 a6, .int .u16 a7] 23)).cell? ⟨w.heap.size, 2, none⟩ = some (.int .u16 a2) := cell_row (X := [a0, a1, a2, a3, a4, a5, a6, a7]) HR3.out (j := 2) (by simp)
  have c3 : (w2.alloc (.cells #[.int .u16 a0, .int .u16 a1, .int .u16 a2, .int .u16 a3, .int .u16 a4, .int .u16 a5, .int .u16 a6, .int .u16 a7] 23)).cell? ⟨w.heap.size, 3, none⟩ = some (.int .u16 a3) := cell_row (X := [a0, a1, a2, a3, a4, a5, a6, a7]) HR3.out (j := 3) (by simp)
  have c4 : (w2.alloc (.cells #[.int .u16 a0, .int .u16 a1, .int .u16 a2, .int .u16 a3, .int .u16 a4, .int .u16 a5, .int .u16 a6, .int .u16 a7] 23)).cell? ⟨w.heap.size, 4, none⟩ = some (.int .u16 a4) := cell_row (X := [a0, a1, a2, a3, a4, a5, a6, a7]) HR3.out (j := 4) (by simp)
  have c5 : (w2.alloc (.cells #[.int .u16 a0, .int .u16 a1, .int .u16 a2, .int .u16 a3, .int .u16 a4, .int .u16 a5, .int .u16 a6, .int .u16 a7] 23)).cell? ⟨w.heap.size, 5, none⟩ = some (.int .u16 a5) := cell_row (X := [a0, a1, a2, a3, a4, a5, a6, a7]) HR3.out (j := 5) (by simp)
  have c6 : (w2.alloc (.cells #[.int .u16 a0, .int .u16 a1, .int .u16 a2, .int .u16 a3, .int .u16 a4, .int .u16 a5, .int .u16 a6, .int .u16 a7] 23)).cell? ⟨w.heap.size, 6, none⟩ = some (.int .u16 a6) := cell_row (X := [a0, a1, a2, a3, a4, a5, a6, a7]) HR3.out (j := 6) (by simp)
  have c7 : (w2.alloc (.cells #[.int .u16 a0, .int .u16 a1, .int .u16 a2, .int .u16 a3, .int .u16 a4, .int .u16 a5, .int .u16 a6, .int .u16 a7] 23)).cell? ⟨w.heap.size, 7, none⟩ = some (.int .u16 a7) := cell_row (X := [a0, a1, a2, a3, a4, a5, a6, a7]) HR3.out (j := 7) (by simp)
  have hik : ¬ i < k := by omega
  have hikz : ¬ (i : Int) < (k : Int) := by omega
  have hikq : ¬ (fr : Int) % 8 < (to : Int) % 9 := by omega
  go_wp2_with fail
  rw [hi, hk]
  clear hikq
  obtain ⟨wr, hwr⟩ : ∃ wr, w2.alloc (.cells #[.int .u16 a0, .int .u16 a1, .int .u16 a2, .int .u16 a3, .int .u16 a4, .int .u16 a5, .int .u16 a6, .int .u16 a7] 23) = wr := ⟨_, rfl⟩
  have HRB := hid HR3.out
  have HBB := hid HB3.out
  have HSB := hid HSM.out
  rw [hwr] at HRB HBB ⊢
  clear hwr c0 c1 c2 c3 c4 c5 c6 c7 HR3 HB3 HR2 HB2 HSM hi hk hq HL8
  have HBS : Hid (∀ j, j < 8 → [a0, a1, a2, a3, a4, a5, a6, a7][j]?.getD 0 < 65536) := fun j hj => at_small HSB.out (by simpa using hj)
  have HCB : Hid (∀ j, j < 8 → wr.cell? ⟨w.heap.size, j, none⟩ = some (.int .u16 (([a0, a1, a2, a3, a4, a5, a6, a7][j]?.getD 0 : Nat) : Int))) := fun j hj => cell_row (X := [a0, a1, a2, a3, a4, a5, a6, a7]) HRB.out (by simpa using hj)
  have HP6 := hid (dot_none (cap := cap) (nts := nts) (B := [a0, a1, a2, a3, a4, a5, a6, a7]) rfl HSB.out)
  have HP8 := hid (full_none (cap := cap) (nts := nts) (B := [a0, a1, a2, a3, a4, a5, a6, a7]) rfl HSB.out)
  obtain ⟨ps, hps⟩ : ∃ ps, [a0, a1, a2, a3, a4, a5, a6, a7].map (hexT cap nts) = ps := ⟨_, rfl⟩
  have HPL : Hid (ps.length = 8) := by show _ = _; rw [← hps, List.length_map]; rfl
  have HPS : Hid (∀ j, j < 8 → ps[j]?.getD [] = hexT cap nts ([a0, a1, a2, a3, a4, a5, a6, a7][j]?.getD 0)) := fun j hj => by
    rw [← hps, List.getElem?_map, List.getElem?_eq_getElem (by simpa using hj)]; rfl
  rw [hps] at HP6 HP8
  clear hps
  have HHX := hid (fun v hv W => hex_any v hv cap nts W)
  go_loop [19, 20] (fun v19 v20 => ∃ (m : Nat) (T : ByteArray), m ≤ 8 ∧ v19 = .string T ∧ v20 = .int .i64 m ∧ T.size ≤ 6 * m ∧ Hid (bn T = gp ps 8 9 m)) (fun _ v20 => 8 - (intOf v20).toNat)
  case atStart => exact ⟨0, ⟨#[]⟩, by omega, rfl, rfl, Nat.le_refl _, by show _ = _; rw [gp_zero]; rfl⟩
  case round =>
    obtain ⟨m, T, hm, rfl, rfl, hTs, HT⟩ := hrel
    by_cases hlt : m < 8
    · have hltz : (m : Int) < 8 := by omega
      have hc := HCB.out m hlt
      have hv := HBS.out m hlt
      have HST := hid (gp_lt (ps := ps) (i := 8) (k := 9) hlt (by rw [HPL.out]; exact hlt))
      rw [HPS.out m hlt] at HST
      obtain ⟨v, hv1⟩ : ∃ v, [a0, a1, a2, a3, a4, a5, a6, a7][m]?.getD 0 = v := ⟨_, rfl⟩
      rw [hv1] at hc hv HST
      have HFM := hid (fun W => HHX.out v hv W)
      clear hv1
      by_cases h0 : m = 0
      · subst h0
        rw [if_neg (by decide), List.append_nil] at HST
        cases dotted
        · go_wp2_with fail
          refine (HFM.out _).mono ?_
          rintro e w5 ⟨⟨u, rfl, hu⟩, hw5⟩
          obtain rfl := hw5.symm
          have hus := hexTs hu
          have HT2 := hid hu
          clear hu
          go_wp2
          exact ⟨⟨0 + 1, T ++ u, by omega, rfl, by go_num, by simp [ByteArray.size_append]; omega, by show _ = _; rw [HST.out]; simp [bn_append, HT.out, HT2.out, bn_colon, bn_colons]⟩, by simp [intOf] <;> omega⟩
        · go_wp2_with fail
          refine (HFM.out _).mono ?_
          rintro e w5 ⟨⟨u, rfl, hu⟩, hw5⟩
          obtain rfl := hw5.symm
          have hus := hexTs hu
          have HT2 := hid hu
          clear hu
          go_wp2
          exact ⟨⟨0 + 1, T ++ u, by omega, rfl, by go_num, by simp [ByteArray.size_append]; omega, by show _ = _; rw [HST.out]; simp [bn_append, HT.out, HT2.out, bn_colon, bn_colons]⟩, by simp [intOf] <;> omega⟩
      · rw [if_pos (by omega)] at HST
        have h0z : (0 : Int) < (m : Int) := by omega
        clear h0
        cases dotted
        · go_wp2_with fail
          refine (HFM.out _).mono ?_
          rintro e w5 ⟨⟨u, rfl, hu⟩, hw5⟩
          obtain rfl := hw5.symm
          have hus := hexTs hu
          have HT2 := hid hu
          clear hu
          go_wp2
          exact ⟨⟨m + 1, T ++ ⟨#[58]⟩ ++ u, by omega, rfl, by go_num, by simp [ByteArray.size_append, colon_size]; omega, by show _ = _; rw [HST.out]; simp [bn_append, HT.out, HT2.out, bn_colon, bn_colons]⟩, by simp [intOf] <;> omega⟩
        · by_cases h6 : m = 6
          · subst h6
            go_wp2_with fail
            have hne : Nonempty (Later wr) := ⟨⟨wr, Below.refl _ _⟩⟩
            have HR6 := HCB.out 6 (by decide)
            have HR7 := HCB.out 7 (by decide)
            have y6 : ∀ x : Later wr, x.W.cell? ⟨w.heap.size, 6, none⟩ = some (.int .u16 a6) := fun x => (x.h.cell (p := ⟨w.heap.size, 6, none⟩) (lt_cell HR6)).trans HR6
            have y7 : ∀ x : Later wr, x.W.cell? ⟨w.heap.size, 7, none⟩ = some (.int .u16 a7) := fun x => (x.h.cell (p := ⟨w.heap.size, 7, none⟩) (lt_cell HR7)).trans HR7
            have ix6 : ∀ W, (Instr.indexAt 23 (.pointer (some ⟨w.heap.size, 0, none⟩)) (.int .i64 6)).run Tryd.prog W = .ok (.pointer (some ⟨w.heap.size, 6, none⟩)) W := fun W => index8 w.heap.size 6 (by decide) W
            have ix7 : ∀ W, (Instr.indexAt 23 (.pointer (some ⟨w.heap.size, 0, none⟩)) (.int .i64 7)).run Tryd.prog W = .ok (.pointer (some ⟨w.heap.size, 7, none⟩)) W := fun W => index8 w.heap.size 7 (by decide) W
            have l6 : a6 < 65536 := HBS.out 6 (by decide)
            have l7 : a7 < 65536 := HBS.out 7 (by decide)
            clear HR6 HR7
            have TEN : ∀ n : Nat, n < 256 → ∃ u : ByteArray, bn u = tenT n ∧ ∀ W, Calls Tryd.prog 12 #[.int .u16 n] W fun e W' => e = .returned (.string u) ∧ Below W.heap.size W W' := fun n hn => by
              obtain ⟨e, w', fr, ⟨⟨u, _, hu⟩, _⟩, _⟩ := ten_any n hn w []
              refine ⟨u, hu, fun W => (ten_any n hn W).mono ?_⟩
              rintro e W' ⟨⟨u2, rfl, hu2⟩, hB⟩
              obtain rfl := bn_inj (hu2.trans hu.symm)
              exact ⟨rfl, hB⟩
            obtain ⟨u1, hu1, k1⟩ := TEN (a6 / 256) (by omega)
            obtain ⟨u2, hu2, k2⟩ := TEN (a6 % 256) (by omega)
            obtain ⟨u3, hu3, k3⟩ := TEN (a7 / 256) (by omega)
            obtain ⟨u4, hu4, k4⟩ := TEN (a7 % 256) (by omega)
            have KT1 : Hid (∀ W, Calls Tryd.prog 12 #[.int .u16 ((a6 : Int) / 256)] W fun e W' => e = .returned (.string u1) ∧ Below W.heap.size W W') := k1
            have KT2 : Hid (∀ W, Calls Tryd.prog 12 #[.int .u16 (bits .and .u16 (a6 : Int) 255)] W fun e W' => e = .returned (.string u2) ∧ Below W.heap.size W W') := fun W => by rw [and255 a6 l6]; exact k2 W
            have KT3 : Hid (∀ W, Calls Tryd.prog 12 #[.int .u16 ((a7 : Int) / 256)] W fun e W' => e = .returned (.string u3) ∧ Below W.heap.size W W') := k3
            have KT4 : Hid (∀ W, Calls Tryd.prog 12 #[.int .u16 (bits .and .u16 (a7 : Int) 255)] W fun e W' => e = .returned (.string u4) ∧ Below W.heap.size W W') := fun W => by rw [and255 a7 l7]; exact k4 W
            have s1 := tenT_size hu1
            have s2 := tenT_size hu2
            have s3 := tenT_size hu3
            have s4 := tenT_size hu4
            have HU : Hid (bn u1 ++ 46 :: (bn u2 ++ 46 :: (bn u3 ++ 46 :: bn u4)) = dotT a6 a7) := by
              show _ = _
              rw [hu1, hu2, hu3, hu4]; rfl
            clear TEN k1 k2 k3 k4 hu1 hu2 hu3 hu4
            refine wp_region_quiet_in (by kernel_rfl) (by kernel_rfl) ?_
            repeat (go_big_quiet_step ((first
              | (go_at_call 12; with_reducible exact Later.call _ (KT1.out _))
              | (go_at_call 12; with_reducible exact Later.call _ (KT2.out _))
              | (go_at_call 12; with_reducible exact Later.call _ (KT3.out _))
              | (go_at_call 12; with_reducible exact Later.call _ (KT4.out _))
              | (go_at_call 12; trace_state; fail "x"))))
            refine wpQuiet_nil ?_
            rintro _ ⟨x, rfl⟩
            have HRZ := hid ((x.h.block _ (lt_cell (HCB.out 0 (by decide)))).trans HRB.out)
            have HBZ := hid (HBB.out.trans (x.h.mono HBB.out.size))
            obtain ⟨w5, hw5⟩ : ∃ w5, x.W = w5 := ⟨_, rfl⟩
            rw [hw5] at HRZ HBZ ⊢
            clear hw5 x y6 y7 ix6 ix7 hne KT1 KT2 KT3 KT4 HRB HBB
            have HSZ : Hid (((T ++ ⟨#[58]⟩) ++ u1 ++ ⟨#[46]⟩ ++ u2 ++ ⟨#[46]⟩ ++ u3 ++ ⟨#[46]⟩ ++ u4).size ≤ 100) := by
              show _ ≤ _
              simp [ByteArray.size_append, colon_size, dot_size]; omega
            have HPZ : Hid (prs (bn ((T ++ ⟨#[58]⟩) ++ u1 ++ ⟨#[46]⟩ ++ u2 ++ ⟨#[46]⟩ ++ u3 ++ ⟨#[46]⟩ ++ u4)) = some [a0, a1, a2, a3, a4, a5, a6, a7]) := by
              show _ = _
              have := HP6.out 
              rw [← HT.out] at this
              skip
              rw [← this]
              congr 1
              show _ = _ ++ dotT a6 a7
              rw [← HU.out]
              simp [bn_append, bn_colon, bn_dot]
            obtain ⟨S, hS⟩ : ∃ S, (T ++ ⟨#[58]⟩) ++ u1 ++ ⟨#[46]⟩ ++ u2 ++ ⟨#[46]⟩ ++ u3 ++ ⟨#[46]⟩ ++ u4 = S := ⟨_, rfl⟩
            rw [hS] at HSZ HPZ ⊢
            have hss := HSZ.out
            clear hS HSZ HU s1 s2 s3 s4 HT hTs
            have HPP : Hid (∀ W, G W → _) := fun W h => HC.out.cpIs (by omega) HPZ.out W h
            obtain ⟨tb, htb⟩ : ∃ t, bn t = txt [a0, a1, a2, a3, a4, a5, a6, a7] := by
              obtain ⟨e, w', fr, ⟨⟨t, _, ht⟩, _⟩, _⟩ := HC.out.ct _ w rfl HSB.out (HK.out _ (Below.refl _ _)) []
              exact ⟨t, ht⟩
            have HTX : Hid (∀ W, G W → Calls Tryd.prog 10 #[.agg #[.int .u16 a0, .int .u16 a1, .int .u16 a2, .int .u16 a3, .int .u16 a4, .int .u16 a5, .int .u16 a6, .int .u16 a7]] W fun e W' => e = .returned (.string tb) ∧ Below W.heap.size W W') := fun W h => HC.out.ctIs rfl HSB.out htb.symm W h
            have eb := self_eq tb
            have hqq : ∀ W, (binOp .eql 23 (.agg #[.int .u16 a0, .int .u16 a1, .int .u16 a2, .int .u16 a3, .int .u16 a4, .int .u16 a5, .int .u16 a6, .int .u16 a7]) (.agg #[.int .u16 a0, .int .u16 a1, .int .u16 a2, .int .u16 a3, .int .u16 a4, .int .u16 a5, .int .u16 a6, .int .u16 a7])).run Tryd.prog W = .ok (.bool true) W := fun W => by
              have := eql_arr (X := [a0, a1, a2, a3, a4, a5, a6, a7]) (Y := [a0, a1, a2, a3, a4, a5, a6, a7]) rfl rfl W
              simpa [u16s] using this
            have hz0 : w.heap.size < w5.heap.size := lt_cell (cell_row (X := [a0, a1, a2, a3, a4, a5, a6, a7]) HRZ.out (j := 0) (by simp))
            clear HC htb HPZ HSB HBS HCB HPL HPS HP6 HP8 HHX
            go_wp2_with fail
            refine (HPP.out _ (HK.out _ HBZ.out)).mono ?_
            rintro e w6 ⟨rfl, B6⟩
            have HR6 := hid ((B6.block _ hz0).trans HRZ.out)
            have HB6 := hid (HBZ.out.trans (B6.mono HBZ.out.size))
            have hz6 : w.heap.size < w6.heap.size := Nat.lt_of_lt_of_le hz0 B6.size
            clear B6 HPP HRZ HBZ
            have HR7 : Hid ((w6.alloc (.cells #[.int .u16 a0, .int .u16 a1, .int .u16 a2, .int .u16 a3, .int .u16 a4, .int .u16 a5, .int .u16 a6, .int .u16 a7] 23)).heap[w.heap.size]? = some (.cells #[.int .u16 a0, .int .u16 a1, .int .u16 a2, .int .u16 a3, .int .u16 a4, .int .u16 a5, .int .u16 a6, .int .u16 a7] 23)) := (((Below.refl w6.heap.size w6).alloc (Nat.le_refl _) (.cells #[.int .u16 a0, .int .u16 a1, .int .u16 a2, .int .u16 a3, .int .u16 a4, .int .u16 a5, .int .u16 a6, .int .u16 a7] 23)).block _ hz6).trans HR6.out
            have HY7 : Hid ((w6.alloc (.cells #[.int .u16 a0, .int .u16 a1, .int .u16 a2, .int .u16 a3, .int .u16 a4, .int .u16 a5, .int .u16 a6, .int .u16 a7] 23)).heap[w6.heap.size]? = some (.cells #[.int .u16 a0, .int .u16 a1, .int .u16 a2, .int .u16 a3, .int .u16 a4, .int .u16 a5, .int .u16 a6, .int .u16 a7] 23)) := heap_alloc_last w6 _
            have HB7 := hid (HB6.out.alloc HB6.out.size (.cells #[.int .u16 a0, .int .u16 a1, .int .u16 a2, .int .u16 a3, .int .u16 a4, .int .u16 a5, .int .u16 a6, .int .u16 a7] 23))
            clear HR6 HB6
            go_wp2_with fail
            obtain ⟨w7, hw7⟩ : ∃ w7, w6.alloc (.cells #[.int .u16 a0, .int .u16 a1, .int .u16 a2, .int .u16 a3, .int .u16 a4, .int .u16 a5, .int .u16 a6, .int .u16 a7] 23) = w7 := ⟨_, rfl⟩
            rw [hw7] at HR7 HY7 HB7 ⊢
            clear hw7
            have hne7 : Nonempty (Later w7) := ⟨⟨w7, Below.refl _ _⟩⟩
            have za0 : ∀ x : Later w7, x.W.cell? ⟨w.heap.size, 0, none⟩ = some (.int .u16 a0) := fun x => (x.h.cell (p := ⟨w.heap.size, 0, none⟩) (lt_cell (cell_row (X := [a0, a1, a2, a3, a4, a5, a6, a7]) HR7.out (j := 0) (by simp)))).trans (cell_row (X := [a0, a1, a2, a3, a4, a5, a6, a7]) HR7.out (j := 0) (by simp))
            have za1 : ∀ x : Later w7, x.W.cell? ⟨w.heap.size, 1, none⟩ = some (.int .u16 a1) := fun x => (x.h.cell (p := ⟨w.heap.size, 1, none⟩) (lt_cell (cell_row (X := [a0, a1, a2, a3, a4, a5, a6, a7]) HR7.out (j := 1) (by simp)))).trans (cell_row (X := [a0, a1, a2, a3, a4, a5, a6, a7]) HR7.out (j := 1) (by simp))
            have za2 : ∀ x : Later w7, x.W.cell? ⟨w.heap.size, 2, none⟩ = some (.int .u16 a2) := fun x => (x.h.cell (p := ⟨w.heap.size, 2, none⟩) (lt_cell (cell_row (X := [a0, a1, a2, a3, a4, a5, a6, a7]) HR7.out (j := 2) (by simp)))).trans (cell_row (X := [a0, a1, a2, a3, a4, a5, a6, a7]) HR7.out (j := 2) (by simp))
            have za3 : ∀ x : Later w7, x.W.cell? ⟨w.heap.size, 3, none⟩ = some (.int .u16 a3) := fun x => (x.h.cell (p := ⟨w.heap.size, 3, none⟩) (lt_cell (cell_row (X := [a0, a1, a2, a3, a4, a5, a6, a7]) HR7.out (j := 3) (by simp)))).trans (cell_row (X := [a0, a1, a2, a3, a4, a5, a6, a7]) HR7.out (j := 3) (by simp))
            have za4 : ∀ x : Later w7, x.W.cell? ⟨w.heap.size, 4, none⟩ = some (.int .u16 a4) := fun x => (x.h.cell (p := ⟨w.heap.size, 4, none⟩) (lt_cell (cell_row (X := [a0, a1, a2, a3, a4, a5, a6, a7]) HR7.out (j := 4) (by simp)))).trans (cell_row (X := [a0, a1, a2, a3, a4, a5, a6, a7]) HR7.out (j := 4) (by simp))
            have za5 : ∀ x : Later w7, x.W.cell? ⟨w.heap.size, 5, none⟩ = some (.int .u16 a5) := fun x => (x.h.cell (p := ⟨w.heap.size, 5, none⟩) (lt_cell (cell_row (X := [a0, a1, a2, a3, a4, a5, a6, a7]) HR7.out (j := 5) (by simp)))).trans (cell_row (X := [a0, a1, a2, a3, a4, a5, a6, a7]) HR7.out (j := 5) (by simp))
            have za6 : ∀ x : Later w7, x.W.cell? ⟨w.heap.size, 6, none⟩ = some (.int .u16 a6) := fun x => (x.h.cell (p := ⟨w.heap.size, 6, none⟩) (lt_cell (cell_row (X := [a0, a1, a2, a3, a4, a5, a6, a7]) HR7.out (j := 6) (by simp)))).trans (cell_row (X := [a0, a1, a2, a3, a4, a5, a6, a7]) HR7.out (j := 6) (by simp))
            have za7 : ∀ x : Later w7, x.W.cell? ⟨w.heap.size, 7, none⟩ = some (.int .u16 a7) := fun x => (x.h.cell (p := ⟨w.heap.size, 7, none⟩) (lt_cell (cell_row (X := [a0, a1, a2, a3, a4, a5, a6, a7]) HR7.out (j := 7) (by simp)))).trans (cell_row (X := [a0, a1, a2, a3, a4, a5, a6, a7]) HR7.out (j := 7) (by simp))
            have zy0 : ∀ x : Later w7, x.W.cell? ⟨w6.heap.size, 0, none⟩ = some (.int .u16 a0) := fun x => (x.h.cell (p := ⟨w6.heap.size, 0, none⟩) (lt_cell (cell_row (X := [a0, a1, a2, a3, a4, a5, a6, a7]) HY7.out (j := 0) (by simp)))).trans (cell_row (X := [a0, a1, a2, a3, a4, a5, a6, a7]) HY7.out (j := 0) (by simp))
            have zy1 : ∀ x : Later w7, x.W.cell? ⟨w6.heap.size, 1, none⟩ = some (.int .u16 a1) := fun x => (x.h.cell (p := ⟨w6.heap.size, 1, none⟩) (lt_cell (cell_row (X := [a0, a1, a2, a3, a4, a5, a6, a7]) HY7.out (j := 1) (by simp)))).trans (cell_row (X := [a0, a1, a2, a3, a4, a5, a6, a7]) HY7.out (j := 1) (by simp))
            have zy2 : ∀ x : Later w7, x.W.cell? ⟨w6.heap.size, 2, none⟩ = some (.int .u16 a2) := fun x => (x.h.cell (p := ⟨w6.heap.size, 2, none⟩) (lt_cell (cell_row (X := [a0, a1, a2, a3, a4, a5, a6, a7]) HY7.out (j := 2) (by simp)))).trans (cell_row (X := [a0, a1, a2, a3, a4, a5, a6, a7]) HY7.out (j := 2) (by simp))
            have zy3 : ∀ x : Later w7, x.W.cell? ⟨w6.heap.size, 3, none⟩ = some (.int .u16 a3) := fun x => (x.h.cell (p := ⟨w6.heap.size, 3, none⟩) (lt_cell (cell_row (X := [a0, a1, a2, a3, a4, a5, a6, a7]) HY7.out (j := 3) (by simp)))).trans (cell_row (X := [a0, a1, a2, a3, a4, a5, a6, a7]) HY7.out (j := 3) (by simp))
            have zy4 : ∀ x : Later w7, x.W.cell? ⟨w6.heap.size, 4, none⟩ = some (.int .u16 a4) := fun x => (x.h.cell (p := ⟨w6.heap.size, 4, none⟩) (lt_cell (cell_row (X := [a0, a1, a2, a3, a4, a5, a6, a7]) HY7.out (j := 4) (by simp)))).trans (cell_row (X := [a0, a1, a2, a3, a4, a5, a6, a7]) HY7.out (j := 4) (by simp))
            have zy5 : ∀ x : Later w7, x.W.cell? ⟨w6.heap.size, 5, none⟩ = some (.int .u16 a5) := fun x => (x.h.cell (p := ⟨w6.heap.size, 5, none⟩) (lt_cell (cell_row (X := [a0, a1, a2, a3, a4, a5, a6, a7]) HY7.out (j := 5) (by simp)))).trans (cell_row (X := [a0, a1, a2, a3, a4, a5, a6, a7]) HY7.out (j := 5) (by simp))
            have zy6 : ∀ x : Later w7, x.W.cell? ⟨w6.heap.size, 6, none⟩ = some (.int .u16 a6) := fun x => (x.h.cell (p := ⟨w6.heap.size, 6, none⟩) (lt_cell (cell_row (X := [a0, a1, a2, a3, a4, a5, a6, a7]) HY7.out (j := 6) (by simp)))).trans (cell_row (X := [a0, a1, a2, a3, a4, a5, a6, a7]) HY7.out (j := 6) (by simp))
            have zy7 : ∀ x : Later w7, x.W.cell? ⟨w6.heap.size, 7, none⟩ = some (.int .u16 a7) := fun x => (x.h.cell (p := ⟨w6.heap.size, 7, none⟩) (lt_cell (cell_row (X := [a0, a1, a2, a3, a4, a5, a6, a7]) HY7.out (j := 7) (by simp)))).trans (cell_row (X := [a0, a1, a2, a3, a4, a5, a6, a7]) HY7.out (j := 7) (by simp))
            have hk7 : ∀ x : Later w7, Below w.heap.size w x.W := fun x => HB7.out.trans (x.h.mono HB7.out.size)
            have K3 := hid (fun x : Later w7 => HTX.out x.W (HK.out _ (hk7 x)))
            have K7 := hid (fun x : Later w7 => HW.out x.W (HK.out _ (hk7 x)))
            have HKB := hid hk7
            clear hk7 HTX HW HK HR7 HY7 HB7
            refine wp_region_quiet_in (by kernel_rfl) (by kernel_rfl) ?_
            repeat (go_big_quiet_step ((first | (go_at_call 10; exact Later.call _ (K3.out _)) | (go_at_call 7; exact Later.call _ (K7.out _)))))
            refine wpQuiet_nil ?_
            rintro _ ⟨x, rfl⟩
            have HE := hid (HKB.out x)
            obtain ⟨w8, hw8⟩ : ∃ w8, w8 = x.W := ⟨_, rfl⟩
            rw [← hw8] at HE ⊢
            clear hw8 x hne7 K3 K7 HKB za0 zy0 za1 zy1 za2 zy2 za3 zy3 za4 zy4 za5 zy5 za6 zy6 za7 zy7
            go_wp2
            go_ret
            exact ⟨rfl, HE.out⟩
          · have h6b : ((m : Int) == 6) = false := by simp; omega
            clear h6
            go_wp2_with fail
            refine (HFM.out _).mono ?_
            rintro e w5 ⟨⟨u, rfl, hu⟩, hw5⟩
            obtain rfl := hw5.symm
            have hus := hexTs hu
            have HT2 := hid hu
            clear hu
            go_wp2
            exact ⟨⟨m + 1, T ++ ⟨#[58]⟩ ++ u, by omega, rfl, by go_num, by simp [ByteArray.size_append, colon_size]; omega, by show _ = _; rw [HST.out]; simp [bn_append, HT.out, HT2.out, bn_colon, bn_colons]⟩, by simp [intOf] <;> omega⟩
    · have hltz : ¬ (m : Int) < 8 := by omega
      obtain rfl : m = 8 := by omega
      rw [← HT.out] at HP8
      have HPZ := hid HP8.out
      have HRZ := hid HRB.out
      have HBZ := hid HBB.out
      clear HRB HBB HT
      have HPP : Hid (∀ W, G W → _) := fun W h => HC.out.cpIs (by omega) HPZ.out W h
      obtain ⟨tb, htb⟩ : ∃ t, bn t = txt [a0, a1, a2, a3, a4, a5, a6, a7] := by
        obtain ⟨e, w', fr, ⟨⟨t, _, ht⟩, _⟩, _⟩ := HC.out.ct _ w rfl HSB.out (HK.out _ (Below.refl _ _)) []
        exact ⟨t, ht⟩
      have HTX : Hid (∀ W, G W → Calls Tryd.prog 10 #[.agg #[.int .u16 a0, .int .u16 a1, .int .u16 a2, .int .u16 a3, .int .u16 a4, .int .u16 a5, .int .u16 a6, .int .u16 a7]] W fun e W' => e = .returned (.string tb) ∧ Below W.heap.size W W') := fun W h => HC.out.ctIs rfl HSB.out htb.symm W h
      have eb := self_eq tb
      have hqq : ∀ W, (binOp .eql 23 (.agg #[.int .u16 a0, .int .u16 a1, .int .u16 a2, .int .u16 a3, .int .u16 a4, .int .u16 a5, .int .u16 a6, .int .u16 a7]) (.agg #[.int .u16 a0, .int .u16 a1, .int .u16 a2, .int .u16 a3, .int .u16 a4, .int .u16 a5, .int .u16 a6, .int .u16 a7])).run Tryd.prog W = .ok (.bool true) W := fun W => by
        have := eql_arr (X := [a0, a1, a2, a3, a4, a5, a6, a7]) (Y := [a0, a1, a2, a3, a4, a5, a6, a7]) rfl rfl W
        simpa [u16s] using this
      have hz0 : w.heap.size < wr.heap.size := lt_cell (cell_row (X := [a0, a1, a2, a3, a4, a5, a6, a7]) HRZ.out (j := 0) (by simp))
      clear HC htb HPZ HSB HBS HCB HPL HPS HP6 HP8 HHX
      go_wp2_with fail
      refine (HPP.out _ (HK.out _ HBZ.out)).mono ?_
      rintro e w6 ⟨rfl, B6⟩
      have HR6 := hid ((B6.block _ hz0).trans HRZ.out)
      have HB6 := hid (HBZ.out.trans (B6.mono HBZ.out.size))
      have hz6 : w.heap.size < w6.heap.size := Nat.lt_of_lt_of_le hz0 B6.size
      clear B6 HPP HRZ HBZ
      have HR7 : Hid ((w6.alloc (.cells #[.int .u16 a0, .int .u16 a1, .int .u16 a2, .int .u16 a3, .int .u16 a4, .int .u16 a5, .int .u16 a6, .int .u16 a7] 23)).heap[w.heap.size]? = some (.cells #[.int .u16 a0, .int .u16 a1, .int .u16 a2, .int .u16 a3, .int .u16 a4, .int .u16 a5, .int .u16 a6, .int .u16 a7] 23)) := (((Below.refl w6.heap.size w6).alloc (Nat.le_refl _) (.cells #[.int .u16 a0, .int .u16 a1, .int .u16 a2, .int .u16 a3, .int .u16 a4, .int .u16 a5, .int .u16 a6, .int .u16 a7] 23)).block _ hz6).trans HR6.out
      have HY7 : Hid ((w6.alloc (.cells #[.int .u16 a0, .int .u16 a1, .int .u16 a2, .int .u16 a3, .int .u16 a4, .int .u16 a5, .int .u16 a6, .int .u16 a7] 23)).heap[w6.heap.size]? = some (.cells #[.int .u16 a0, .int .u16 a1, .int .u16 a2, .int .u16 a3, .int .u16 a4, .int .u16 a5, .int .u16 a6, .int .u16 a7] 23)) := heap_alloc_last w6 _
      have HB7 := hid (HB6.out.alloc HB6.out.size (.cells #[.int .u16 a0, .int .u16 a1, .int .u16 a2, .int .u16 a3, .int .u16 a4, .int .u16 a5, .int .u16 a6, .int .u16 a7] 23))
      clear HR6 HB6
      go_wp2_with fail
      obtain ⟨w7, hw7⟩ : ∃ w7, w6.alloc (.cells #[.int .u16 a0, .int .u16 a1, .int .u16 a2, .int .u16 a3, .int .u16 a4, .int .u16 a5, .int .u16 a6, .int .u16 a7] 23) = w7 := ⟨_, rfl⟩
      rw [hw7] at HR7 HY7 HB7 ⊢
      clear hw7
      have hne7 : Nonempty (Later w7) := ⟨⟨w7, Below.refl _ _⟩⟩
      have za0 : ∀ x : Later w7, x.W.cell? ⟨w.heap.size, 0, none⟩ = some (.int .u16 a0) := fun x => (x.h.cell (p := ⟨w.heap.size, 0, none⟩) (lt_cell (cell_row (X := [a0, a1, a2, a3, a4, a5, a6, a7]) HR7.out (j := 0) (by simp)))).trans (cell_row (X := [a0, a1, a2, a3, a4, a5, a6, a7]) HR7.out (j := 0) (by simp))
      have za1 : ∀ x : Later w7, x.W.cell? ⟨w.heap.size, 1, none⟩ = some (.int .u16 a1) := fun x => (x.h.cell (p := ⟨w.heap.size, 1, none⟩) (lt_cell (cell_row (X := [a0, a1, a2, a3, a4, a5, a6, a7]) HR7.out (j := 1) (by simp)))).trans (cell_row (X := [a0, a1, a2, a3, a4, a5, a6, a7]) HR7.out (j := 1) (by simp))
      have za2 : ∀ x : Later w7, x.W.cell? ⟨w.heap.size, 2, none⟩ = some (.int .u16 a2) := fun x => (x.h.cell (p := ⟨w.heap.size, 2, none⟩) (lt_cell (cell_row (X := [a0, a1, a2, a3, a4, a5, a6, a7]) HR7.out (j := 2) (by simp)))).trans (cell_row (X := [a0, a1, a2, a3, a4, a5, a6, a7]) HR7.out (j := 2) (by simp))
      have za3 : ∀ x : Later w7, x.W.cell? ⟨w.heap.size, 3, none⟩ = some (.int .u16 a3) := fun x => (x.h.cell (p := ⟨w.heap.size, 3, none⟩) (lt_cell (cell_row (X := [a0, a1, a2, a3, a4, a5, a6, a7]) HR7.out (j := 3) (by simp)))).trans (cell_row (X := [a0, a1, a2, a3, a4, a5, a6, a7]) HR7.out (j := 3) (by simp))
      have za4 : ∀ x : Later w7, x.W.cell? ⟨w.heap.size, 4, none⟩ = some (.int .u16 a4) := fun x => (x.h.cell (p := ⟨w.heap.size, 4, none⟩) (lt_cell (cell_row (X := [a0, a1, a2, a3, a4, a5, a6, a7]) HR7.out (j := 4) (by simp)))).trans (cell_row (X := [a0, a1, a2, a3, a4, a5, a6, a7]) HR7.out (j := 4) (by simp))
      have za5 : ∀ x : Later w7, x.W.cell? ⟨w.heap.size, 5, none⟩ = some (.int .u16 a5) := fun x => (x.h.cell (p := ⟨w.heap.size, 5, none⟩) (lt_cell (cell_row (X := [a0, a1, a2, a3, a4, a5, a6, a7]) HR7.out (j := 5) (by simp)))).trans (cell_row (X := [a0, a1, a2, a3, a4, a5, a6, a7]) HR7.out (j := 5) (by simp))
      have za6 : ∀ x : Later w7, x.W.cell? ⟨w.heap.size, 6, none⟩ = some (.int .u16 a6) := fun x => (x.h.cell (p := ⟨w.heap.size, 6, none⟩) (lt_cell (cell_row (X := [a0, a1, a2, a3, a4, a5, a6, a7]) HR7.out (j := 6) (by simp)))).trans (cell_row (X := [a0, a1, a2, a3, a4, a5, a6, a7]) HR7.out (j := 6) (by simp))
      have za7 : ∀ x : Later w7, x.W.cell? ⟨w.heap.size, 7, none⟩ = some (.int .u16 a7) := fun x => (x.h.cell (p := ⟨w.heap.size, 7, none⟩) (lt_cell (cell_row (X := [a0, a1, a2, a3, a4, a5, a6, a7]) HR7.out (j := 7) (by simp)))).trans (cell_row (X := [a0, a1, a2, a3, a4, a5, a6, a7]) HR7.out (j := 7) (by simp))
      have zy0 : ∀ x : Later w7, x.W.cell? ⟨w6.heap.size, 0, none⟩ = some (.int .u16 a0) := fun x => (x.h.cell (p := ⟨w6.heap.size, 0, none⟩) (lt_cell (cell_row (X := [a0, a1, a2, a3, a4, a5, a6, a7]) HY7.out (j := 0) (by simp)))).trans (cell_row (X := [a0, a1, a2, a3, a4, a5, a6, a7]) HY7.out (j := 0) (by simp))
      have zy1 : ∀ x : Later w7, x.W.cell? ⟨w6.heap.size, 1, none⟩ = some (.int .u16 a1) := fun x => (x.h.cell (p := ⟨w6.heap.size, 1, none⟩) (lt_cell (cell_row (X := [a0, a1, a2, a3, a4, a5, a6, a7]) HY7.out (j := 1) (by simp)))).trans (cell_row (X := [a0, a1, a2, a3, a4, a5, a6, a7]) HY7.out (j := 1) (by simp))
      have zy2 : ∀ x : Later w7, x.W.cell? ⟨w6.heap.size, 2, none⟩ = some (.int .u16 a2) := fun x => (x.h.cell (p := ⟨w6.heap.size, 2, none⟩) (lt_cell (cell_row (X := [a0, a1, a2, a3, a4, a5, a6, a7]) HY7.out (j := 2) (by simp)))).trans (cell_row (X := [a0, a1, a2, a3, a4, a5, a6, a7]) HY7.out (j := 2) (by simp))
      have zy3 : ∀ x : Later w7, x.W.cell? ⟨w6.heap.size, 3, none⟩ = some (.int .u16 a3) := fun x => (x.h.cell (p := ⟨w6.heap.size, 3, none⟩) (lt_cell (cell_row (X := [a0, a1, a2, a3, a4, a5, a6, a7]) HY7.out (j := 3) (by simp)))).trans (cell_row (X := [a0, a1, a2, a3, a4, a5, a6, a7]) HY7.out (j := 3) (by simp))
      have zy4 : ∀ x : Later w7, x.W.cell? ⟨w6.heap.size, 4, none⟩ = some (.int .u16 a4) := fun x => (x.h.cell (p := ⟨w6.heap.size, 4, none⟩) (lt_cell (cell_row (X := [a0, a1, a2, a3, a4, a5, a6, a7]) HY7.out (j := 4) (by simp)))).trans (cell_row (X := [a0, a1, a2, a3, a4, a5, a6, a7]) HY7.out (j := 4) (by simp))
      have zy5 : ∀ x : Later w7, x.W.cell? ⟨w6.heap.size, 5, none⟩ = some (.int .u16 a5) := fun x => (x.h.cell (p := ⟨w6.heap.size, 5, none⟩) (lt_cell (cell_row (X := [a0, a1, a2, a3, a4, a5, a6, a7]) HY7.out (j := 5) (by simp)))).trans (cell_row (X := [a0, a1, a2, a3, a4, a5, a6, a7]) HY7.out (j := 5) (by simp))
      have zy6 : ∀ x : Later w7, x.W.cell? ⟨w6.heap.size, 6, none⟩ = some (.int .u16 a6) := fun x => (x.h.cell (p := ⟨w6.heap.size, 6, none⟩) (lt_cell (cell_row (X := [a0, a1, a2, a3, a4, a5, a6, a7]) HY7.out (j := 6) (by simp)))).trans (cell_row (X := [a0, a1, a2, a3, a4, a5, a6, a7]) HY7.out (j := 6) (by simp))
      have zy7 : ∀ x : Later w7, x.W.cell? ⟨w6.heap.size, 7, none⟩ = some (.int .u16 a7) := fun x => (x.h.cell (p := ⟨w6.heap.size, 7, none⟩) (lt_cell (cell_row (X := [a0, a1, a2, a3, a4, a5, a6, a7]) HY7.out (j := 7) (by simp)))).trans (cell_row (X := [a0, a1, a2, a3, a4, a5, a6, a7]) HY7.out (j := 7) (by simp))
      have hk7 : ∀ x : Later w7, Below w.heap.size w x.W := fun x => HB7.out.trans (x.h.mono HB7.out.size)
      have K3 := hid (fun x : Later w7 => HTX.out x.W (HK.out _ (hk7 x)))
      have K7 := hid (fun x : Later w7 => HW.out x.W (HK.out _ (hk7 x)))
      have HKB := hid hk7
      clear hk7 HTX HW HK HR7 HY7 HB7
      refine wp_region_quiet_in (by kernel_rfl) (by kernel_rfl) ?_
      repeat (go_big_quiet_step ((first | (go_at_call 10; exact Later.call _ (K3.out _)) | (go_at_call 7; exact Later.call _ (K7.out _)))))
      refine wpQuiet_nil ?_
      rintro _ ⟨x, rfl⟩
      have HE := hid (HKB.out x)
      obtain ⟨w8, hw8⟩ : ∃ w8, w8 = x.W := ⟨_, rfl⟩
      rw [← hw8] at HE ⊢
      clear hw8 x hne7 K3 K7 HKB za0 zy0 za1 zy1 za2 zy2 za3 zy3 za4 zy4 za5 zy5 za6 zy6 za7 zy7
      go_wp2
      go_ret
      exact ⟨rfl, HE.out⟩
end Go.Proofs.YtpkmpebhlolhaaaDoor.X
