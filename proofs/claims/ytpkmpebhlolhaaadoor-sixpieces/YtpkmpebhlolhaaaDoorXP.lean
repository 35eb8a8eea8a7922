/- SixPieces' walk. (Stage 11.) -/
import Derived.Test.YtpkmpebhlolhaaaDoorXM
namespace Go.Proofs.YtpkmpebhlolhaaaDoor.X
open Go.RowKit
open Go.Proofs.YtpkmpebhlolhaaaDoor.F (hx hx_bd vl bn bn_length bn_append bn_inj bn_get byte_bd hid bn_extract isEmpty_false isEmpty_true str_eq same_eq)
set_option linter.unusedVariables false
set_option linter.unusedSimpArgs false

theorem drewN_below {B : Nat} {a w : World} (h : Below B a w) (n : Nat) : Below B a (w.drewN n) := h.trans ⟨rfl, rfl, rfl, Nat.le_refl _, fun _ _ => rfl⟩
theorem index8 (g x : Nat) (hx : x < 8) (W : World) : (Instr.indexAt 23 (.pointer (some ⟨g, 0, none⟩)) (.int .i64 (x : Int))).run Tryd.prog W = .ok (.pointer (some ⟨g, x, none⟩)) W := by
  have hl : Tryd.prog.arrayLen 23 = 8 := by kernel_rfl
  have hs : (sizeOf (Tryd.prog.elem 23)).run Tryd.prog W = .ok 1 W := by kernel_rfl
  rw [run_indexAt_array W 23 ⟨g, 0, none⟩ .i64 (x : Int) (by kernel_rfl), hl, if_pos ⟨by omega, by omega⟩, hs]
  simp only [Result.andThen, Int.toNat_natCast, Nat.mul_one]
  have : ((⟨g, 0, none⟩ : Addr).add x) = ⟨g, x, none⟩ := by simp [Addr.add]; intro h; exact h.symm
  rw [this]
/-- A slice of pieces that came in. -/
def Row16 (w : World) (ad : Option Addr) (n : Nat) (L : List Nat) : Prop := L.length = n ∧ Small L ∧ (0 < n → ∃ b o, ad = some ⟨b, o, none⟩ ∧ ∀ j, j < n → w.cell? ⟨b, o + j, none⟩ = some (.int .u16 ((L[j]?.getD 0 : Nat) : Int)))
theorem full_row {L : List Nat} {n : Nat} (hl : L.length = n) (hs : Small L) : prs (gp (L.map (hexT false false)) n n n) = if n = 8 then some L else none := by
  subst hl
  have := gp_end (L.map (hexT false false))
  rw [List.length_map] at this
  rw [this, read_row hs]
set_option maxRecDepth 100000 in
set_option maxHeartbeats 8000000 in
theorem pieces_false {G : World → Prop} (C : Ctr G) (ad : Option Addr) (n cap γ : Nat) (L : List Nat) (w : World) (hG : G w) (hL : Row16 w ad n L) (hn : n ≤ 20) (hγ : γ < 256) :
    Calls Tryd.prog 6 #[.slice ad n cap, .int .u8 γ, .bool false] w fun e W' => e = .returned (.bool true) ∧ Below w.heap.size w W' := by
  have HK : Hid (∀ W, Below w.heap.size w W → G W) := fun W h => C.keep w W hG h
  have HW : Hid (∀ W, G W → _) := fun W h => works_any C W h
  have hnz : (n : Int) ≤ 20 := by omega
  obtain ⟨hln, hsm, hcl⟩ := hL
  have HCL := hid hcl
  have HLN := hid hln
  have HSM := hid hsm
  clear hcl hln hsm
  go_enter Tryd.func6, Tryd.ntmps6
  go_wp2_with fail
  obtain ⟨g, hg⟩ : ∃ g : Nat, (γ : Int) % ((n : Int) + 1) = (g : Int) := ⟨γ % (n + 1), by simp⟩
  have hgn : g ≤ n := by
    have := Int.emod_lt_of_pos (γ : Int) (show (0 : Int) < (n : Int) + 1 by omega)
    rw [hg] at this; omega
  rw [hg]
  clear hg
  obtain ⟨ps, hps⟩ : ∃ ps, L.map (hexT false false) = ps := ⟨_, rfl⟩
  have HPL : Hid (ps.length = n) := by show _ = _; rw [← hps, List.length_map]; exact HLN.out
  have HPS : Hid (∀ j, j < n → ps[j]?.getD [] = hexT false false (L[j]?.getD 0)) := fun j hj => by
    rw [← hps, List.getElem?_map, List.getElem?_eq_getElem (by rw [HLN.out]; exact hj)]; rfl
  have HSV : Hid (∀ j, j < n → L[j]?.getD 0 < 65536) := fun j hj => by
    rw [List.getElem?_eq_getElem (by rw [HLN.out]; exact hj)]
    exact HSM.out _ (List.getElem_mem _)
  have HFU := hid (full_row HLN.out HSM.out)
  rw [hps] at HFU
  clear hps
  have HCP : Hid (∀ (s : ByteArray), s.size ≤ 200 → ∀ W, G W → _) := fun s h W hW => C.cp s W (by omega) hW
  have HBW : Hid (Below w.heap.size w w) := Below.refl _ _
  clear C hG
  go_loop [8, 9] (fun v8 v9 => ∃ (i : Nat) (T : ByteArray), i ≤ n ∧ v8 = .string T ∧ v9 = .int .i64 i ∧ T.size ≤ 6 * i ∧ Hid (bn T = gp ps n n i)) (fun _ v9 => n - (intOf v9).toNat)
  case atStart => exact ⟨0, ⟨#[]⟩, by omega, rfl, rfl, Nat.le_refl _, by show _ = _; rw [gp_zero]; rfl⟩
  case round =>
    obtain ⟨i, T, hi, rfl, rfl, hTs, HT⟩ := hrel
    by_cases hlt : i < n
    · have hltz : (i : Int) < (n : Int) := by omega
      obtain ⟨b, o, rfl, hcl⟩ := HCL.out (by omega)
      have hc := hcl i hlt
      have hv := HSV.out i hlt
      have HST := hid (gp_lt (ps := ps) (i := n) (k := n) hlt (by rw [HPL.out]; exact hlt))
      rw [HPS.out i hlt] at HST
      obtain ⟨v, hv1⟩ : ∃ v, L[i]?.getD 0 = v := ⟨_, rfl⟩
      rw [hv1] at hc hv HST
      have HFM := hid (fun W => hex_any v hv false false W)
      clear hv1 hcl
      by_cases h0 : i = 0
      · subst h0
        rw [if_neg (by decide), List.append_nil] at HST
        rw [Nat.add_zero] at hc
        go_wp2_with fail
        refine (HFM.out _).mono ?_
        rintro e w2 ⟨⟨t, rfl, ht⟩, hw2⟩
        obtain rfl := hw2.symm
        have hts := hexTs ht
        have HT2 := hid ht
        clear ht
        go_wp2
        exact ⟨⟨0 + 1, T ++ t, by omega, rfl, by go_num, by simp [ByteArray.size_append]; omega, by show _ = _; rw [HST.out]; simp [bn_append, HT.out, HT2.out]⟩, by simp [intOf]; omega⟩
      · rw [if_pos (by omega)] at HST
        have h0z : (0 : Int) < (i : Int) := by omega
        clear h0
        go_wp2_with fail
        refine (HFM.out _).mono ?_
        rintro e w2 ⟨⟨t, rfl, ht⟩, hw2⟩
        obtain rfl := hw2.symm
        have hts := hexTs ht
        have HT2 := hid ht
        clear ht
        go_wp2
        exact ⟨⟨i + 1, T ++ ⟨#[58]⟩ ++ t, by omega, rfl, by go_num, by simp [ByteArray.size_append, colon_size]; omega, by show _ = _; rw [HST.out]; simp [bn_append, HT.out, HT2.out, bn_colon]⟩, by simp [intOf]; omega⟩
    · have hltz : ¬ (i : Int) < (n : Int) := by omega
      obtain rfl : i = n := by omega
      rw [← HT.out] at HFU
      have HC := hid (HCP.out T (by omega) w (HK.out _ HBW.out))
      clear HT HPS HPL HCP
      by_cases h8 : i = 8
      · subst h8
        rw [HFU.out, if_pos rfl] at HC
        have HLL := hid HLN.out
        obtain ⟨p0, p1, p2, p3, p4, p5, p6, p7, rfl⟩ : ∃ p0 p1 p2 p3 p4 p5 p6 p7, L = [p0, p1, p2, p3, p4, p5, p6, p7] := by
          match L, HLL.out with
          | [p0, p1, p2, p3, p4, p5, p6, p7], _ => exact ⟨p0, p1, p2, p3, p4, p5, p6, p7, rfl⟩
        have HC2 : Hid (Calls Tryd.prog 8 #[.string T] w fun e W' => e = .returned (.tuple #[.agg #[.int .u16 p0, .int .u16 p1, .int .u16 p2, .int .u16 p3, .int .u16 p4, .int .u16 p5, .int .u16 p6, .int .u16 p7], .int .i64 0]) ∧ Below w.heap.size w W') := HC.out
        obtain ⟨b, o, rfl, hcl⟩ := HCL.out (by omega)
        have HCC := hid hcl
        clear HC HFU HSV HSM HLN HLL hcl HCL
        go_wp2_with fail
        refine HC2.out.mono ?_
        rintro e w1 ⟨rfl, B1⟩
        have HB1 := hid (B1.alloc B1.size (.cells #[.int .u16 p0, .int .u16 p1, .int .u16 p2, .int .u16 p3, .int .u16 p4, .int .u16 p5, .int .u16 p6, .int .u16 p7] 23))
        have HG1 := hid (HK.out _ HB1.out)
        have HCA : Hid (∀ j, j < 8 → (w1.alloc (.cells #[.int .u16 p0, .int .u16 p1, .int .u16 p2, .int .u16 p3, .int .u16 p4, .int .u16 p5, .int .u16 p6, .int .u16 p7] 23)).cell? ⟨w1.heap.size, j, none⟩ = some (.int .u16 (([p0, p1, p2, p3, p4, p5, p6, p7][j]?.getD 0 : Nat) : Int))) := fun j hj => cell_in w1 23 [p0, p1, p2, p3, p4, p5, p6, p7] (Below.refl _ _) hj
        have HCB : Hid (∀ j, j < 8 → (w1.alloc (.cells #[.int .u16 p0, .int .u16 p1, .int .u16 p2, .int .u16 p3, .int .u16 p4, .int .u16 p5, .int .u16 p6, .int .u16 p7] 23)).cell? ⟨b, o + j, none⟩ = some (.int .u16 (([p0, p1, p2, p3, p4, p5, p6, p7][j]?.getD 0 : Nat) : Int))) := fun j hj => (HB1.out.cell (p := ⟨b, o + j, none⟩) (lt_cell (HCC.out j hj))).trans (HCC.out j hj)
        obtain ⟨w2, hw2⟩ : ∃ w2, w1.alloc (.cells #[.int .u16 p0, .int .u16 p1, .int .u16 p2, .int .u16 p3, .int .u16 p4, .int .u16 p5, .int .u16 p6, .int .u16 p7] 23) = w2 := ⟨_, rfl⟩
        obtain ⟨X, hX⟩ : ∃ X, [p0, p1, p2, p3, p4, p5, p6, p7] = X := ⟨_, rfl⟩
        rw [hw2] at HB1 HG1 HCA HCB
        rw [hX] at HCA HCB
        clear HCC B1 HC2
        go_wp2_with fail
        clear hw2 hX
        go_loopw [12] (fun v12 wr => ∃ j : Nat, j ≤ 8 ∧ v12 = .int .i64 j ∧ Hid (Below w2.heap.size w2 wr)) (fun v12 _ => 8 - (intOf v12).toNat)
        case atStart => exact ⟨0, by omega, rfl, Below.refl _ _⟩
        case round =>
          obtain ⟨j, hj, rfl, HBR⟩ := hrel
          by_cases hj8 : j < 8
          · have hj8z : (j : Int) < 8 := by omega
            have ca : wr.cell? ⟨w1.heap.size, j, none⟩ = _ := (HBR.out.cell (p := ⟨w1.heap.size, j, none⟩) (lt_cell (HCA.out j hj8))).trans (HCA.out j hj8)
            have cb : wr.cell? ⟨b, o + j, none⟩ = _ := (HBR.out.cell (p := ⟨b, o + j, none⟩) (lt_cell (HCB.out j hj8))).trans (HCB.out j hj8)
            have hix := index8 w1.heap.size j hj8
            obtain ⟨x, hx⟩ : ∃ x, X[j]?.getD 0 = x := ⟨_, rfl⟩
            rw [hx] at ca cb
            clear hx
            go_wp2
            go_quiet (fail)
            go_wp2
            go_roundw
            case rel => exact ⟨j + 1, by omega, by go_num, hid (drewN_below HBR.out _)⟩
            case measure => simp [intOf]; omega
          · have hj8z : ¬ (j : Int) < 8 := by omega
            obtain rfl : j = 8 := by omega
            have HBE := hid (HB1.out.trans (HBR.out.mono HB1.out.size))
            have HGE := hid (HK.out _ HBE.out)
            go_wp2_with (go_at_call 7; refine (HW.out _ HGE.out).mono ?_; rintro e w3 ⟨rfl, B3⟩)
            go_ret
            exact ⟨rfl, HBE.out.trans (B3.mono HBE.out.size)⟩
      · rw [HFU.out, if_neg h8] at HC
        have HC2 : Hid (Calls Tryd.prog 8 #[.string T] w fun e W' => e = .returned (.tuple #[.agg #[.int .u16 0, .int .u16 0, .int .u16 0, .int .u16 0, .int .u16 0, .int .u16 0, .int .u16 0, .int .u16 0], .int .i64 8]) ∧ Below w.heap.size w W') := HC.out
        have h8b : ((i : Int) != 8) = true := by simp; omega
        have hq : ∀ W, (binOp .eql 23 (.agg #[.int .u16 0, .int .u16 0, .int .u16 0, .int .u16 0, .int .u16 0, .int .u16 0, .int .u16 0, .int .u16 0]) (.agg #[.int .u16 0, .int .u16 0, .int .u16 0, .int .u16 0, .int .u16 0, .int .u16 0, .int .u16 0, .int .u16 0])).run Tryd.prog W = .ok (.bool true) W := fun W => eql_arr (X := [0, 0, 0, 0, 0, 0, 0, 0]) (Y := [0, 0, 0, 0, 0, 0, 0, 0]) rfl rfl W
        clear HC HFU h8 HSV HSM HLN
        go_wp2_with fail
        refine HC2.out.mono ?_
        rintro e w1 ⟨rfl, B1⟩
        have HB1 := hid (B1.alloc B1.size (.cells #[.int .u16 0, .int .u16 0, .int .u16 0, .int .u16 0, .int .u16 0, .int .u16 0, .int .u16 0, .int .u16 0] 23))
        have HG1 := hid (HK.out _ HB1.out)
        clear B1 HC2 HCL
        go_wp2_with (go_at_call 7; refine (HW.out _ HG1.out).mono ?_; rintro e w2 ⟨rfl, B2⟩)
        go_ret
        exact ⟨rfl, HB1.out.trans (B2.mono HB1.out.size)⟩
/-- Two colons ahead of piece g, or behind all. -/
theorem gap_row {L : List Nat} {n g : Nat} (hl : L.length = n) (hs : Small L) (hg : g ≤ n) : prs (gp (L.map (hexT false false)) g g n ++ (if g = n then [58, 58] else [])) = if n ≤ 7 then some (L.take g ++ List.replicate (8 - n) 0 ++ L.drop g) else none := by
  subst hl
  have e : gp (L.map (hexT false false)) g g L.length ++ (if g = L.length then [58, 58] else []) = joinB 58 ((L.take g).map (hexT false false)) ++ 58 :: 58 :: joinB 58 ((L.drop g).map (hexT false false)) := by
    by_cases h : g = L.length
    · subst h
      have := gp_end (L.map (hexT false false))
      rw [List.length_map] at this
      rw [if_pos rfl, this, List.take_length, List.drop_length]
      simp [joinB]
    · rw [if_neg h, gp_all (by omega) (by rw [List.length_map]; exact Nat.le_refl _), List.append_nil, List.map_take, List.map_drop]
  rw [e, read_gap (hs.take g) (hs.drop g), List.length_take, List.length_drop, show min g L.length + (L.length - g) = L.length by omega, show 8 - (L.length - g) - min g L.length = 8 - L.length by omega]
theorem gap_len {L : List Nat} {n g : Nat} (hl : L.length = n) (hg : g ≤ n) (h7 : n ≤ 7) : (L.take g ++ List.replicate (8 - n) 0 ++ L.drop g).length = 8 := by
  simp only [List.length_append, List.length_take, List.length_replicate, List.length_drop]; omega
theorem gap_lo {L : List Nat} {n g i : Nat} (hl : L.length = n) (hg : g ≤ n) (hi : i < g) : (L.take g ++ List.replicate (8 - n) 0 ++ L.drop g)[i]?.getD 0 = L[i]?.getD 0 := by
  rw [List.append_assoc, List.getElem?_append_left (by rw [List.length_take]; omega), List.getElem?_take, if_pos hi]
theorem gap_hi {L : List Nat} {n g i : Nat} (hl : L.length = n) (hg : g ≤ n) (h7 : n ≤ 7) (hi : g ≤ i) (hn : i < n) : (L.take g ++ List.replicate (8 - n) 0 ++ L.drop g)[8 - n + i]?.getD 0 = L[i]?.getD 0 := by
  have e : (L.take g ++ List.replicate (8 - n) 0).length = g + (8 - n) := by rw [List.length_append, List.length_take, List.length_replicate]; omega
  rw [List.getElem?_append_right (by rw [e]; omega), e, List.getElem?_drop, show g + (8 - n + i - (g + (8 - n))) = i by omega]
set_option maxRecDepth 100000 in
set_option maxHeartbeats 8000000 in
theorem pieces_true {G : World → Prop} (C : Ctr G) (ad : Option Addr) (n cap γ : Nat) (L : List Nat) (w : World) (hG : G w) (hL : Row16 w ad n L) (hn : n ≤ 20) (hγ : γ < 256) :
    Calls Tryd.prog 6 #[.slice ad n cap, .int .u8 γ, .bool true] w fun e W' => e = .returned (.bool true) ∧ Below w.heap.size w W' := by
  have HK : Hid (∀ W, Below w.heap.size w W → G W) := fun W h => C.keep w W hG h
  have HW : Hid (∀ W, G W → _) := fun W h => works_any C W h
  have hnz : (n : Int) ≤ 20 := by omega
  obtain ⟨hln, hsm, hcl⟩ := hL
  have HCL := hid hcl
  have HLN := hid hln
  have HSM := hid hsm
  clear hcl hln hsm
  go_enter Tryd.func6, Tryd.ntmps6
  go_wp2_with fail
  obtain ⟨g, hg⟩ : ∃ g : Nat, (γ : Int) % ((n : Int) + 1) = (g : Int) := ⟨γ % (n + 1), by simp⟩
  have hgn : g ≤ n := by
    have := Int.emod_lt_of_pos (γ : Int) (show (0 : Int) < (n : Int) + 1 by omega)
    rw [hg] at this; omega
  rw [hg]
  clear hg
  obtain ⟨ps, hps⟩ : ∃ ps, L.map (hexT false false) = ps := ⟨_, rfl⟩
  have HPL : Hid (ps.length = n) := by show _ = _; rw [← hps, List.length_map]; exact HLN.out
  have HPS : Hid (∀ j, j < n → ps[j]?.getD [] = hexT false false (L[j]?.getD 0)) := fun j hj => by
    rw [← hps, List.getElem?_map, List.getElem?_eq_getElem (by rw [HLN.out]; exact hj)]; rfl
  have HSV : Hid (∀ j, j < n → L[j]?.getD 0 < 65536) := fun j hj => by
    rw [List.getElem?_eq_getElem (by rw [HLN.out]; exact hj)]
    exact HSM.out _ (List.getElem_mem _)
  have HGR := hid (gap_row HLN.out HSM.out hgn)
  rw [hps] at HGR
  clear hps
  have HCP : Hid (∀ (s : ByteArray), s.size ≤ 200 → ∀ W, G W → _) := fun s h W hW => C.cp s W (by omega) hW
  have HBW : Hid (Below w.heap.size w w) := Below.refl _ _
  clear C hG
  go_loop [8, 9] (fun v8 v9 => ∃ (i : Nat) (T : ByteArray), i ≤ n ∧ v8 = .string T ∧ v9 = .int .i64 i ∧ T.size ≤ 6 * i ∧ Hid (bn T = gp ps g g i)) (fun _ v9 => n - (intOf v9).toNat)
  case atStart => exact ⟨0, ⟨#[]⟩, by omega, rfl, rfl, Nat.le_refl _, by show _ = _; rw [gp_zero]; rfl⟩
  case round =>
    obtain ⟨i, T, hi, rfl, rfl, hTs, HT⟩ := hrel
    by_cases hlt : i < n
    · have hltz : (i : Int) < (n : Int) := by omega
      obtain ⟨b, o, rfl, hcl⟩ := HCL.out (by omega)
      have hc := hcl i hlt
      have hv := HSV.out i hlt
      have HS1 : Hid (i < g → _) := fun (h : i < g) => gp_lt (ps := ps) (i := g) (k := g) h (by rw [HPL.out]; exact hlt)
      have HS2 : Hid (i = g → gp ps g g (i + 1) = gp ps g g i ++ [58, 58] ++ ps[i]?.getD []) := fun h => by
        subst h; exact gp_here (by rw [HPL.out]; exact hlt)
      have HS3 : Hid (g < i → _) := fun (h : g < i) => gp_behind (ps := ps) h (by rw [HPL.out]; exact hlt)
      rw [HPS.out i hlt] at HS1 HS2 HS3
      obtain ⟨v, hv1⟩ : ∃ v, L[i]?.getD 0 = v := ⟨_, rfl⟩
      rw [hv1] at hc hv HS1 HS2 HS3
      have HFM := hid (fun W => hex_any v hv false false W)
      clear hv1 hcl
      by_cases hig : i = g
      · have HST := hid (HS2.out hig)
        subst hig
        clear HS1 HS2 HS3
        have hee : ((i : Int) == (i : Int)) = true := by simp
        go_wp2_with fail
        refine (HFM.out _).mono ?_
        rintro e w2 ⟨⟨t, rfl, ht⟩, hw2⟩
        obtain rfl := hw2.symm
        have hts := hexTs ht
        have HT2 := hid ht
        clear ht
        go_wp2
        exact ⟨⟨i + 1, T ++ ⟨#[58, 58]⟩ ++ t, by omega, rfl, by go_num, by simp [ByteArray.size_append, colons_size]; omega, by show _ = _; rw [HST.out]; simp [bn_append, HT.out, HT2.out, bn_colon, bn_colons]⟩, by simp [intOf]; omega⟩
      · have hne : ((i : Int) == (g : Int)) = false := by simp; omega
        by_cases hlo : i < g
        · have HST := hid (HS1.out hlo)
          clear HS1 HS2 HS3
          by_cases h0 : i = 0
          · subst h0
            rw [if_neg (by decide), List.append_nil] at HST
            rw [Nat.add_zero] at hc
            clear hig
            go_wp2_with fail
            refine (HFM.out _).mono ?_
            rintro e w2 ⟨⟨t, rfl, ht⟩, hw2⟩
            obtain rfl := hw2.symm
            have hts := hexTs ht
            have HT2 := hid ht
            clear ht
            go_wp2
            exact ⟨⟨0 + 1, T ++ t, by omega, rfl, by go_num, by simp [ByteArray.size_append]; omega, by show _ = _; rw [HST.out]; simp [bn_append, HT.out, HT2.out, bn_colon, bn_colons]⟩, by simp [intOf]; omega⟩
          · rw [if_pos (by omega)] at HST
            have h0z : (0 : Int) < (i : Int) := by omega
            clear h0 hig
            go_wp2_with fail
            refine (HFM.out _).mono ?_
            rintro e w2 ⟨⟨t, rfl, ht⟩, hw2⟩
            obtain rfl := hw2.symm
            have hts := hexTs ht
            have HT2 := hid ht
            clear ht
            go_wp2
            exact ⟨⟨i + 1, T ++ ⟨#[58]⟩ ++ t, by omega, rfl, by go_num, by simp [ByteArray.size_append, colon_size]; omega, by show _ = _; rw [HST.out]; simp [bn_append, HT.out, HT2.out, bn_colon, bn_colons]⟩, by simp [intOf]; omega⟩
        · have HST := hid (HS3.out (by omega))
          have h0z : (0 : Int) < (i : Int) := by omega
          clear HS1 HS2 HS3 hig
          go_wp2_with fail
          refine (HFM.out _).mono ?_
          rintro e w2 ⟨⟨t, rfl, ht⟩, hw2⟩
          obtain rfl := hw2.symm
          have hts := hexTs ht
          have HT2 := hid ht
          clear ht
          go_wp2
          exact ⟨⟨i + 1, T ++ ⟨#[58]⟩ ++ t, by omega, rfl, by go_num, by simp [ByteArray.size_append, colon_size]; omega, by show _ = _; rw [HST.out]; simp [bn_append, HT.out, HT2.out, bn_colon, bn_colons]⟩, by simp [intOf]; omega⟩
    · have hltz : ¬ (i : Int) < (n : Int) := by omega
      obtain rfl : i = n := by omega
      by_cases hgi : g = i
      · rw [if_pos hgi] at HGR
        have hee : ((g : Int) == (i : Int)) = true := by rw [hgi]; simp
        have HTT : Hid (bn (T ++ ⟨#[58, 58]⟩) = gp ps g g i ++ [58, 58]) := by show _ = _; rw [bn_append, HT.out, bn_colons]
        rw [← HTT.out] at HGR
        have HC := hid (HCP.out (T ++ ⟨#[58, 58]⟩) (by rw [ByteArray.size_append, colons_size]; omega) w (HK.out _ HBW.out))
        clear HT HPS HPL HCP HTT
        by_cases h7 : i ≤ 7
        · rw [HGR.out, if_pos h7] at HC
          have HLX := hid (gap_len HLN.out hgn h7)
          have HLO : Hid (∀ i, i < g → _) := fun i (hi : i < g) => gap_lo (L := L) HLN.out hgn hi
          have HHI : Hid (∀ k, g ≤ k → k < i → _) := fun k (hi : g ≤ k) (hn : k < i) => gap_hi (L := L) HLN.out hgn h7 hi hn
          obtain ⟨X, hX⟩ : ∃ X, L.take g ++ List.replicate (8 - i) 0 ++ L.drop g = X := ⟨_, rfl⟩
          rw [hX] at HC HLX HLO HHI
          clear hX
          obtain ⟨p0, p1, p2, p3, p4, p5, p6, p7, hX⟩ : ∃ p0 p1 p2 p3 p4 p5 p6 p7, [p0, p1, p2, p3, p4, p5, p6, p7] = X := by
            match X, HLX.out with
            | [p0, p1, p2, p3, p4, p5, p6, p7], _ => exact ⟨p0, p1, p2, p3, p4, p5, p6, p7, rfl⟩
          have HC2 : Hid (Calls Tryd.prog 8 #[.string (T ++ ⟨#[58, 58]⟩)] w fun e W' => e = .returned (.tuple #[.agg #[.int .u16 p0, .int .u16 p1, .int .u16 p2, .int .u16 p3, .int .u16 p4, .int .u16 p5, .int .u16 p6, .int .u16 p7], .int .i64 0]) ∧ Below w.heap.size w W') := by
            have := HC.out
            rw [← hX] at this
            exact this
          have HXX := hid hX
          have h7z : ¬ (7 : Int) < (i : Int) := by omega
          have h8s : ((8 : Int) - (i : Int)) = ((8 - i : Nat) : Int) := by omega
          have H8S := hid h8s
          clear HC HGR HSV HSM HLX hX h8s
          go_wp2_with fail
          refine HC2.out.mono ?_
          rintro e w1 ⟨rfl, B1⟩
          have HB1 := hid (B1.alloc B1.size (.cells #[.int .u16 p0, .int .u16 p1, .int .u16 p2, .int .u16 p3, .int .u16 p4, .int .u16 p5, .int .u16 p6, .int .u16 p7] 23))
          have HCA : Hid (∀ j, j < 8 → (w1.alloc (.cells #[.int .u16 p0, .int .u16 p1, .int .u16 p2, .int .u16 p3, .int .u16 p4, .int .u16 p5, .int .u16 p6, .int .u16 p7] 23)).cell? ⟨w1.heap.size, j, none⟩ = some (.int .u16 (([p0, p1, p2, p3, p4, p5, p6, p7][j]?.getD 0 : Nat) : Int))) := fun j hj => cell_in w1 23 [p0, p1, p2, p3, p4, p5, p6, p7] (Below.refl _ _) hj
          rw [HXX.out] at HCA
          obtain ⟨w2, hw2⟩ : ∃ w2, w1.alloc (.cells #[.int .u16 p0, .int .u16 p1, .int .u16 p2, .int .u16 p3, .int .u16 p4, .int .u16 p5, .int .u16 p6, .int .u16 p7] 23) = w2 := ⟨_, rfl⟩
          rw [hw2] at HB1 HCA
          clear B1 HC2
          go_wp2_with fail
          clear hw2 HXX
          go_loopw [12] (fun v12 wr => ∃ j : Nat, j ≤ i ∧ v12 = .int .i64 j ∧ Hid (Below w2.heap.size w2 wr)) (fun v12 _ => i - (intOf v12).toNat)
          case atStart => exact ⟨0, by omega, rfl, Below.refl _ _⟩
          case round =>
            obtain ⟨j, hj, rfl, HBR⟩ := hrel
            by_cases hj8 : j < i
            · have hj8z : (j : Int) < (i : Int) := by omega
              obtain ⟨b, o, rfl, hcl⟩ := HCL.out (by omega)
              have hcb1 := hcl j hj8
              have hcb2 : w2.cell? ⟨b, o + j, none⟩ = _ := (HB1.out.cell (p := ⟨b, o + j, none⟩) (lt_cell hcb1)).trans hcb1
              have cb : wr.cell? ⟨b, o + j, none⟩ = _ := (HBR.out.cell (p := ⟨b, o + j, none⟩) (lt_cell hcb2)).trans hcb2
              clear hcb1 hcb2 hcl
              have CAW : Hid (∀ k, k < 8 → wr.cell? ⟨w1.heap.size, k, none⟩ = some (.int .u16 ((X[k]?.getD 0 : Nat) : Int))) := fun k hk => (HBR.out.cell (p := ⟨w1.heap.size, k, none⟩) (lt_cell (HCA.out k hk))).trans (HCA.out k hk)
              by_cases hlo : j < g
              · have hloz : ¬ (g : Int) ≤ (j : Int) := by omega
                have ca := CAW.out j (by omega)
                rw [HLO.out j hlo] at ca
                have hix := index8 w1.heap.size j (by omega)
                obtain ⟨x, hx⟩ : ∃ x, L[j]?.getD 0 = x := ⟨_, rfl⟩
                rw [hx] at ca cb
                clear hx CAW
                go_wp2
                go_quiet (fail)
                go_wp2
                go_roundw
                case rel => exact ⟨j + 1, by omega, by go_num, hid (drewN_below HBR.out _)⟩
                case measure => simp [intOf]; omega
              · exfalso; omega
            · have hj8z : ¬ (j : Int) < (i : Int) := by omega
              have HBE := hid (HB1.out.trans (HBR.out.mono HB1.out.size))
              have HGE := hid (HK.out _ HBE.out)
              go_wp2_with (go_at_call 7; refine (HW.out _ HGE.out).mono ?_; rintro e w3 ⟨rfl, B3⟩)
              go_ret
              exact ⟨rfl, HBE.out.trans (B3.mono HBE.out.size)⟩
        · rw [HGR.out, if_neg h7] at HC
          have HC2 : Hid (Calls Tryd.prog 8 #[.string (T ++ ⟨#[58, 58]⟩)] w fun e W' => e = .returned (.tuple #[.agg #[.int .u16 0, .int .u16 0, .int .u16 0, .int .u16 0, .int .u16 0, .int .u16 0, .int .u16 0, .int .u16 0], .int .i64 8]) ∧ Below w.heap.size w W') := HC.out
          have h7z : (7 : Int) < (i : Int) := by omega
          have hq : ∀ W, (binOp .eql 23 (.agg #[.int .u16 0, .int .u16 0, .int .u16 0, .int .u16 0, .int .u16 0, .int .u16 0, .int .u16 0, .int .u16 0]) (.agg #[.int .u16 0, .int .u16 0, .int .u16 0, .int .u16 0, .int .u16 0, .int .u16 0, .int .u16 0, .int .u16 0])).run Tryd.prog W = .ok (.bool true) W := fun W => eql_arr (X := [0, 0, 0, 0, 0, 0, 0, 0]) (Y := [0, 0, 0, 0, 0, 0, 0, 0]) rfl rfl W
          clear HC HGR HSV HSM HLN
          go_wp2_with fail
          refine HC2.out.mono ?_
          rintro e w1 ⟨rfl, B1⟩
          have HB1 := hid (B1.alloc B1.size (.cells #[.int .u16 0, .int .u16 0, .int .u16 0, .int .u16 0, .int .u16 0, .int .u16 0, .int .u16 0, .int .u16 0] 23))
          have HG1 := hid (HK.out _ HB1.out)
          clear B1 HC2 HCL
          go_wp2_with (go_at_call 7; refine (HW.out _ HG1.out).mono ?_; rintro e w2 ⟨rfl, B2⟩)
          go_ret
          exact ⟨rfl, HB1.out.trans (B2.mono HB1.out.size)⟩
      · rw [if_neg hgi, List.append_nil] at HGR
        have hee : ((g : Int) == (i : Int)) = false := by simp; omega
        rw [← HT.out] at HGR
        have HC := hid (HCP.out T (by omega) w (HK.out _ HBW.out))
        clear HT HPS HPL HCP
        by_cases h7 : i ≤ 7
        · rw [HGR.out, if_pos h7] at HC
          have HLX := hid (gap_len HLN.out hgn h7)
          have HLO : Hid (∀ i, i < g → _) := fun i (hi : i < g) => gap_lo (L := L) HLN.out hgn hi
          have HHI : Hid (∀ k, g ≤ k → k < i → _) := fun k (hi : g ≤ k) (hn : k < i) => gap_hi (L := L) HLN.out hgn h7 hi hn
          obtain ⟨X, hX⟩ : ∃ X, L.take g ++ List.replicate (8 - i) 0 ++ L.drop g = X := ⟨_, rfl⟩
          rw [hX] at HC HLX HLO HHI
          clear hX
          obtain ⟨p0, p1, p2, p3, p4, p5, p6, p7, hX⟩ : ∃ p0 p1 p2 p3 p4 p5 p6 p7, [p0, p1, p2, p3, p4, p5, p6, p7] = X := by
            match X, HLX.out with
            | [p0, p1, p2, p3, p4, p5, p6, p7], _ => exact ⟨p0, p1, p2, p3, p4, p5, p6, p7, rfl⟩
          have HC2 : Hid (Calls Tryd.prog 8 #[.string T] w fun e W' => e = .returned (.tuple #[.agg #[.int .u16 p0, .int .u16 p1, .int .u16 p2, .int .u16 p3, .int .u16 p4, .int .u16 p5, .int .u16 p6, .int .u16 p7], .int .i64 0]) ∧ Below w.heap.size w W') := by
            have := HC.out
            rw [← hX] at this
            exact this
          have HXX := hid hX
          have h7z : ¬ (7 : Int) < (i : Int) := by omega
          have h8s : ((8 : Int) - (i : Int)) = ((8 - i : Nat) : Int) := by omega
          have H8S := hid h8s
          clear HC HGR HSV HSM HLX hX h8s
          go_wp2_with fail
          refine HC2.out.mono ?_
          rintro e w1 ⟨rfl, B1⟩
          have HB1 := hid (B1.alloc B1.size (.cells #[.int .u16 p0, .int .u16 p1, .int .u16 p2, .int .u16 p3, .int .u16 p4, .int .u16 p5, .int .u16 p6, .int .u16 p7] 23))
          have HCA : Hid (∀ j, j < 8 → (w1.alloc (.cells #[.int .u16 p0, .int .u16 p1, .int .u16 p2, .int .u16 p3, .int .u16 p4, .int .u16 p5, .int .u16 p6, .int .u16 p7] 23)).cell? ⟨w1.heap.size, j, none⟩ = some (.int .u16 (([p0, p1, p2, p3, p4, p5, p6, p7][j]?.getD 0 : Nat) : Int))) := fun j hj => cell_in w1 23 [p0, p1, p2, p3, p4, p5, p6, p7] (Below.refl _ _) hj
          rw [HXX.out] at HCA
          obtain ⟨w2, hw2⟩ : ∃ w2, w1.alloc (.cells #[.int .u16 p0, .int .u16 p1, .int .u16 p2, .int .u16 p3, .int .u16 p4, .int .u16 p5, .int .u16 p6, .int .u16 p7] 23) = w2 := ⟨_, rfl⟩
          rw [hw2] at HB1 HCA
          clear B1 HC2
          go_wp2_with fail
          clear hw2 HXX
          go_loopw [12] (fun v12 wr => ∃ j : Nat, j ≤ i ∧ v12 = .int .i64 j ∧ Hid (Below w2.heap.size w2 wr)) (fun v12 _ => i - (intOf v12).toNat)
          case atStart => exact ⟨0, by omega, rfl, Below.refl _ _⟩
          case round =>
            obtain ⟨j, hj, rfl, HBR⟩ := hrel
            by_cases hj8 : j < i
            · have hj8z : (j : Int) < (i : Int) := by omega
              obtain ⟨b, o, rfl, hcl⟩ := HCL.out (by omega)
              have hcb1 := hcl j hj8
              have hcb2 : w2.cell? ⟨b, o + j, none⟩ = _ := (HB1.out.cell (p := ⟨b, o + j, none⟩) (lt_cell hcb1)).trans hcb1
              have cb : wr.cell? ⟨b, o + j, none⟩ = _ := (HBR.out.cell (p := ⟨b, o + j, none⟩) (lt_cell hcb2)).trans hcb2
              clear hcb1 hcb2 hcl
              have CAW : Hid (∀ k, k < 8 → wr.cell? ⟨w1.heap.size, k, none⟩ = some (.int .u16 ((X[k]?.getD 0 : Nat) : Int))) := fun k hk => (HBR.out.cell (p := ⟨w1.heap.size, k, none⟩) (lt_cell (HCA.out k hk))).trans (HCA.out k hk)
              by_cases hlo : j < g
              · have hloz : ¬ (g : Int) ≤ (j : Int) := by omega
                have ca := CAW.out j (by omega)
                rw [HLO.out j hlo] at ca
                have hix := index8 w1.heap.size j (by omega)
                obtain ⟨x, hx⟩ : ∃ x, L[j]?.getD 0 = x := ⟨_, rfl⟩
                rw [hx] at ca cb
                clear hx CAW
                go_wp2
                go_quiet (fail)
                go_wp2
                go_roundw
                case rel => exact ⟨j + 1, by omega, by go_num, hid (drewN_below HBR.out _)⟩
                case measure => simp [intOf]; omega
              · have hloz : (g : Int) ≤ (j : Int) := by omega
                have ca := CAW.out (8 - i + j) (by omega)
                rw [HHI.out j (by omega) hj8] at ca
                have hix := index8 w1.heap.size (8 - i + j) (by omega)
                obtain ⟨x, hx⟩ : ∃ x, L[j]?.getD 0 = x := ⟨_, rfl⟩
                rw [hx] at ca cb
                clear hx CAW
                obtain ⟨m, hm⟩ : ∃ m, 8 - i + j = m := ⟨_, rfl⟩
                have hmz : (8 : Int) - (i : Int) + (j : Int) = (m : Int) := by omega
                have hm8 : m < 8 := by omega
                rw [hm] at ca hix
                clear hm
                go_wp2
                go_quiet (fail)
                go_wp2
                go_roundw
                case rel => exact ⟨j + 1, by omega, by go_num, hid (drewN_below HBR.out _)⟩
                case measure => simp [intOf]; omega
            · have hj8z : ¬ (j : Int) < (i : Int) := by omega
              have HBE := hid (HB1.out.trans (HBR.out.mono HB1.out.size))
              have HGE := hid (HK.out _ HBE.out)
              go_wp2_with (go_at_call 7; refine (HW.out _ HGE.out).mono ?_; rintro e w3 ⟨rfl, B3⟩)
              go_ret
              exact ⟨rfl, HBE.out.trans (B3.mono HBE.out.size)⟩
        · rw [HGR.out, if_neg h7] at HC
          have HC2 : Hid (Calls Tryd.prog 8 #[.string T] w fun e W' => e = .returned (.tuple #[.agg #[.int .u16 0, .int .u16 0, .int .u16 0, .int .u16 0, .int .u16 0, .int .u16 0, .int .u16 0, .int .u16 0], .int .i64 8]) ∧ Below w.heap.size w W') := HC.out
          have h7z : (7 : Int) < (i : Int) := by omega
          have hq : ∀ W, (binOp .eql 23 (.agg #[.int .u16 0, .int .u16 0, .int .u16 0, .int .u16 0, .int .u16 0, .int .u16 0, .int .u16 0, .int .u16 0]) (.agg #[.int .u16 0, .int .u16 0, .int .u16 0, .int .u16 0, .int .u16 0, .int .u16 0, .int .u16 0, .int .u16 0])).run Tryd.prog W = .ok (.bool true) W := fun W => eql_arr (X := [0, 0, 0, 0, 0, 0, 0, 0]) (Y := [0, 0, 0, 0, 0, 0, 0, 0]) rfl rfl W
          clear HC HGR HSV HSM HLN
          go_wp2_with fail
          refine HC2.out.mono ?_
          rintro e w1 ⟨rfl, B1⟩
          have HB1 := hid (B1.alloc B1.size (.cells #[.int .u16 0, .int .u16 0, .int .u16 0, .int .u16 0, .int .u16 0, .int .u16 0, .int .u16 0, .int .u16 0] 23))
          have HG1 := hid (HK.out _ HB1.out)
          clear B1 HC2 HCL
          go_wp2_with (go_at_call 7; refine (HW.out _ HG1.out).mono ?_; rintro e w2 ⟨rfl, B2⟩)
          go_ret
          exact ⟨rfl, HB1.out.trans (B2.mono HB1.out.size)⟩
set_option maxRecDepth 100000 in
set_option maxHeartbeats 8000000 in
theorem pieces_walk {G : World → Prop} (C : Ctr G) (ad : Option Addr) (n cap : Nat) (γ : Int) (has : Bool) (L : List Nat) (w : World) (hG : G w) (hL : Row16 w ad n L) (hm : n ≤ maxLen) (hγ : (Lit.int .u8 γ).wf = true) :
    Calls Tryd.prog 6 #[.slice ad n cap, .int .u8 γ, .bool has] w fun e W' => e = .returned (.bool true) ∧ Below w.heap.size w W' := by
  unfold maxLen at hm
  have hγ2 : 0 ≤ γ ∧ γ ≤ 255 := by
    simp [Lit.wf, IntKind.min, IntKind.max, IntKind.bits, IntKind.signed] at hγ
    omega
  obtain ⟨y, rfl⟩ : ∃ y : Nat, γ = (y : Int) := ⟨γ.toNat, by omega⟩
  by_cases hn : n ≤ 20
  · cases has with
    | true => exact pieces_true C ad n cap y L w hG hL hn (by omega)
    | false => exact pieces_false C ad n cap y L w hG hL hn (by omega)
  have HW0 := hid (works_any C w hG)
  have hnz : (20 : Int) < (n : Int) := by omega
  clear hL hγ C hG hγ2 hn
  go_enter Tryd.func6, Tryd.ntmps6
  go_wp2_with (go_at_call 7; refine HW0.out.mono ?_; rintro e w1 ⟨rfl, B1⟩)
  go_ret
  exact ⟨rfl, B1⟩
end Go.Proofs.YtpkmpebhlolhaaaDoor.X
