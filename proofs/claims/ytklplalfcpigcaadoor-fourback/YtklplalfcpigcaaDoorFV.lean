/- four.Parse. (Stage 10.) -/
import Derived.Test.YtklplalfcpigcaaDoorFM
namespace Go.Proofs.YtklplalfcpigcaaDoor.F
open Go.RowKit
set_option linter.unusedVariables false
theorem lg_more {t j : Nat} {xs : List (Nat × Int)} (h : j + 1 < xs.length) : sm j (xs.drop j) = (xs[j]?.getD (0, 0)).1 * 256 ^ (3 - j) + sm (j + 1) (xs.drop (j + 1)) ∧ lg t (xs.drop j) = (decide ((xs[j]?.getD (0, 0)).2 = 4) || decide (255 < (xs[j]?.getD (0, 0)).1) || lg t (xs.drop (j + 1))) := by
  rw [List.drop_eq_getElem_cons (by omega : j < xs.length), List.drop_eq_getElem_cons h, List.getElem?_eq_getElem (by omega : j < xs.length)]
  exact ⟨rfl, rfl⟩
theorem lg_last {t j : Nat} {xs : List (Nat × Int)} (h : j + 1 = xs.length) : sm j (xs.drop j) = (xs[j]?.getD (0, 0)).1 ∧ lg t (xs.drop j) = (decide ((xs[j]?.getD (0, 0)).2 = 4) || decide (256 ^ (5 - t) ≤ (xs[j]?.getD (0, 0)).1)) := by
  rw [List.drop_eq_getElem_cons (by omega : j < xs.length), h, List.drop_length, List.getElem?_eq_getElem (by omega : j < xs.length)]
  exact ⟨rfl, rfl⟩
set_option maxRecDepth 100000 in
set_option maxHeartbeats 8000000 in
theorem parse_any (s : ByteArray) (w : World) (hs : s.size ≤ 100000) (hM : Max w) :
    Calls Tryd.prog 10 #[.string s] w fun e W' => ParR (bn s) w e W' := by
  have HUD := hid (fun W => undotted_any s W hs)
  have hus := udot_size s
  have HPD : Hid (prt (bn s) = spl (bn (udot s))) := by show _ = _; rw [prt_ud, udot_bn]
  obtain ⟨U, hU⟩ : ∃ U, udot s = U := ⟨_, rfl⟩
  rw [hU] at HUD hus HPD
  clear hU
  have HSP := hid (splitn_any U w (by omega) hM)
  rw [← HPD.out] at HSP
  clear HPD hM
  have HRT : Hid (∀ (x : Nat) (y : Int) e W, prs (bn s) = (x, y) → e = .returned (.tuple #[.int .u32 x, .int .i64 y]) → Below w.heap.size w W → ParR (bn s) w e W) := fun x y e W h he hB => by unfold ParR; rw [h]; exact ⟨he, hB⟩
  go_enter Tryd.func10, Tryd.ntmps10
  go_wp2_with (first
    | (go_at_call 21; refine (HUD.out _).mono ?_; rintro e w2 ⟨rfl, hw2⟩; obtain rfl := hw2.symm))
  refine HSP.out.mono ?_
  rintro e w1 ⟨⟨b, c, qs, rfl, hcb, hor⟩, B1⟩
  have HB1 := hid B1
  clear B1 HSP HUD
  rcases hor with ⟨h4, hqs⟩ | ⟨h5, h6⟩
  · have HLN : Hid (((prt (bn s)).map num).length = qs.length) := by show _ = _; rw [List.length_map, ← hqs, List.length_map]
    have HNM : Hid (∀ i, i < qs.length → ((prt (bn s)).map num)[i]?.getD (0, 0) = num (bn (qs[i]?.getD ⟨#[]⟩))) := fun i hi => by
      rw [← hqs, List.getElem?_map, List.getElem?_map, List.getElem?_eq_getElem hi]; rfl
    have HSZ : Hid (∀ i, i < qs.length → (qs[i]?.getD ⟨#[]⟩).size ≤ 100000) := fun i hi => by
      have h1 : qs[i]?.getD ⟨#[]⟩ ∈ qs := by rw [List.getElem?_eq_getElem hi]; exact List.getElem_mem _
      exact Nat.le_trans (parts_size hqs h1) hs
    have hl : (prt (bn s)).length = qs.length := by rw [← hqs, List.length_map]
    have HPR : Hid (prs (bn s) = if any8 ((prt (bn s)).map num) = true then (0, 8) else if lg qs.length ((prt (bn s)).map num) = true then (0, 4) else (sm 0 ((prt (bn s)).map num), 0)) := by
      show _ = _
      unfold prs adr
      rw [if_neg (by omega), hl]; rfl
    have hq1 : 0 < qs.length := by
      rw [← hl]
      unfold prt
      have h1 := List.length_pos_iff.2 (spl_ne (bn s))
      split
      · rw [List.length_dropLast]; omega
      · exact h1
    rw [hl] at h4
    have HCB := hid hcb
    obtain ⟨xs, hxs⟩ : ∃ xs, (prt (bn s)).map num = xs := ⟨_, rfl⟩
    rw [hxs] at HLN HNM HPR
    obtain ⟨t, ht⟩ : ∃ t, qs.length = t := ⟨_, rfl⟩
    rw [ht] at HLN HNM HPR HSZ HCB hq1 h4 ⊢
    clear hxs ht hqs hcb hl
    have h4z : ¬ (4 : Int) < (t : Int) := by omega
    have HSM : Hid (lg t xs = false → sm 0 xs < 4294967296) := fun h => by
      rw [lg_split] at h
      rw [sm_fst]
      refine small_sum (by rw [List.length_map, HLN.out]; exact hq1) (by rw [List.length_map, HLN.out]; exact h4) ?_
      rw [List.length_map, HLN.out]
      exact (Bool.or_eq_false_iff.1 h).2
    go_wp2_with fail
    go_loopw [5, 6, 20] (fun v5 v6 v20 wr => ∃ (j acc : Nat) (g : Bool), j ≤ t ∧ acc ≤ j * 72057594037927936 ∧ v5 = .int .u64 (acc : Int) ∧ v6 = .bool g ∧ v20 = .int .i64 (j : Int) ∧ Hid (any8 (xs.take j) = false) ∧ Hid (lg t xs = (g || lg t (xs.drop j))) ∧ Hid (sm 0 xs = acc + sm j (xs.drop j)) ∧ Hid (Below w1.heap.size w1 wr)) (fun _ _ v20 _ => t - (intOf v20).toNat)
    case atStart => exact ⟨0, 0, false, Nat.zero_le _, by omega, rfl, rfl, rfl, rfl, by show _ = _; rw [List.drop_zero]; rfl, by show _ = _; rw [List.drop_zero, Nat.zero_add], Below.refl _ _⟩
    case round =>
      obtain ⟨j, acc, g, hj, hac, rfl, rfl, rfl, H8, HL, HA, HB⟩ := hrel
      have zj := HB.out.size
      by_cases hlt : j < t
      · have hcw := HCB.out j hlt
        have hcr : wr.cell? ⟨b, j, none⟩ = some (.string (qs[j]?.getD ⟨#[]⟩)) := (HB.out.cell (p := ⟨b, j, none⟩) (lt_cell hcw)).trans hcw
        have HNU : Hid (Calls Tryd.prog 8 #[.string (qs[j]?.getD ⟨#[]⟩)] wr fun e W' => e = .returned (.tuple #[.int .u64 ((num (bn (qs[j]?.getD ⟨#[]⟩))).1 : Nat), .int .i64 (num (bn (qs[j]?.getD ⟨#[]⟩))).2]) ∧ Below wr.heap.size wr W') := number_any _ wr (HSZ.out j hlt)
        have hxi : j < xs.length := by rw [HLN.out]; exact hlt
        have HS8 := hid (any_step (p := fun x => decide (x.2 = 8)) xs j hxi)
        have HAL : Hid ((xs[j]?.getD (0, 0)).2 = 8 → any8 xs = true) := fun h => by
          refine List.any_eq_true.2 ⟨xs[j], List.getElem_mem hxi, ?_⟩
          rw [List.getElem?_eq_getElem hxi] at h
          exact decide_eq_true h
        have HMO := hid (fun h => lg_more (t := t) (xs := xs) (j := j) h)
        have HLS := hid (fun h => lg_last (t := t) (xs := xs) (j := j) h)
        rw [HLN.out] at HMO HLS
        rw [← HNM.out j hlt] at HNU
        have hbd : (xs[j]?.getD (0, 0)).1 < 4294967296 := by rw [HNM.out j hlt]; exact num_bd _
        obtain ⟨D, hD⟩ : ∃ D, qs[j]?.getD ⟨#[]⟩ = D := ⟨_, rfl⟩
        rw [hD] at hcr HNU
        obtain ⟨y, hy⟩ : ∃ y, xs[j]?.getD (0, 0) = y := ⟨_, rfl⟩
        rw [hy] at HNU HS8 HAL hbd HMO HLS
        obtain ⟨x, q⟩ := y
        simp only at HNU HS8 HAL hbd HMO HLS
        have hltz : (j : Int) < (t : Int) := by omega
        clear hD hy hcw HCB HNM HSZ hxi
        by_cases hq8 : q = 8
        · have HP := hid (HPR.out.trans (if_pos (HAL.out hq8)))
          have hqb : (q == 8) = true := by simpa using hq8
          have HQ8 := hid hq8
          clear hq8 HAL HPR HMO HLS HS8 HL HA H8 HSM
          go_wp2_with (go_at_call 8; refine HNU.out.mono ?_; rintro e w4 ⟨rfl, B4⟩)
          go_ret2
          exact HRT.out _ _ _ _ HP.out (by rw [HQ8.out]; rfl) (HB1.out.trans ((HB.out.trans (B4.mono HB.out.size)).mono HB1.out.size))
        · have hqb : (q == 8) = false := by simpa using hq8
          have H82 : Hid (any8 (xs.take (j + 1)) = false) := by
            show _ = _
            unfold any8 at H8 ⊢
            rw [HS8.out, H8.out]
            simp [hq8]
          clear HS8 HAL HPR hq8 H8 HSM
          by_cases hlast : j + 1 < t
          · obtain ⟨hs1, hs2⟩ := HMO.out hlast
            have HA2 : Hid (sm 0 xs = (acc + x * 256 ^ (3 - j)) + sm (j + 1) (xs.drop (j + 1))) := by show _ = _; rw [HA.out, hs1]; omega
            have HL2 : Hid (lg t xs = ((g || (decide (q = 4) || decide (255 < x))) || lg t (xs.drop (j + 1)))) := by show _ = _; rw [HL.out, hs2]; cases g <;> cases decide (q = 4) <;> rfl
            have hne : ((j : Int) == (t : Int) - 1) = false := by simp; omega
            clear hs1 hs2 HMO HLS HA HL
            obtain rfl | rfl | rfl : j = 0 ∨ j = 1 ∨ j = 2 := by omega
            · have hsh : acc + x * 256 ^ (3 - 0) = acc + x * 16777216 := rfl
              rw [hsh] at HA2
              clear hsh
              have hac2 : acc ≤ 0 := by omega
              clear hac
              cases g with
              | true =>
                have HL3 : Hid (lg t xs = (true || lg t (xs.drop 1))) := HL2.out
                clear HL2
                go_wp2_with (go_at_call 8; refine HNU.out.mono ?_; rintro e w4 ⟨rfl, B4⟩)
                go_roundw
                case rel => exact ⟨1, acc + x * 16777216, true, by omega, by omega, by go_num, rfl, by go_num, H82, HL3, HA2, HB.out.trans (B4.mono HB.out.size)⟩
                case measure => simp [intOf]; omega
              | false =>
                by_cases hq4 : q = 4
                · have hq4b : (q == 4) = true := by simpa using hq4
                  have HL3 : Hid (lg t xs = (true || lg t (xs.drop 1))) := by show _ = _; rw [HL2.out, decide_eq_true hq4]; rfl
                  clear HL2 hq4
                  go_wp2_with (go_at_call 8; refine HNU.out.mono ?_; rintro e w4 ⟨rfl, B4⟩)
                  go_roundw
                  case rel => exact ⟨1, acc + x * 16777216, true, by omega, by omega, by go_num, rfl, by go_num, H82, HL3, HA2, HB.out.trans (B4.mono HB.out.size)⟩
                  case measure => simp [intOf]; omega
                · have hq4b : (q == 4) = false := by simpa using hq4
                  have hdd : decide (255 < x) = decide ((0 : Int) < (x : Int) / 256) := decide_eq_decide.2 ⟨fun h => by omega, fun h => by omega⟩
                  have HL3 : Hid (lg t xs = (decide ((0 : Int) < (x : Int) / 256) || lg t (xs.drop 1))) := by show _ = _; rw [HL2.out, decide_eq_false hq4, hdd]; rfl
                  clear HL2 hq4 hdd
                  go_wp2_with (go_at_call 8; refine HNU.out.mono ?_; rintro e w4 ⟨rfl, B4⟩)
                  go_roundw
                  case rel => exact ⟨1, acc + x * 16777216, decide ((0 : Int) < (x : Int) / 256), by omega, by omega, by go_num, rfl, by go_num, H82, HL3, HA2, HB.out.trans (B4.mono HB.out.size)⟩
                  case measure => simp [intOf]; omega
            · have hsh : acc + x * 256 ^ (3 - 1) = acc + x * 65536 := rfl
              rw [hsh] at HA2
              clear hsh
              have hac2 : acc ≤ 72057594037927936 := by omega
              clear hac
              cases g with
              | true =>
                have HL3 : Hid (lg t xs = (true || lg t (xs.drop 2))) := HL2.out
                clear HL2
                go_wp2_with (go_at_call 8; refine HNU.out.mono ?_; rintro e w4 ⟨rfl, B4⟩)
                go_roundw
                case rel => exact ⟨2, acc + x * 65536, true, by omega, by omega, by go_num, rfl, by go_num, H82, HL3, HA2, HB.out.trans (B4.mono HB.out.size)⟩
                case measure => simp [intOf]; omega
              | false =>
                by_cases hq4 : q = 4
                · have hq4b : (q == 4) = true := by simpa using hq4
                  have HL3 : Hid (lg t xs = (true || lg t (xs.drop 2))) := by show _ = _; rw [HL2.out, decide_eq_true hq4]; rfl
                  clear HL2 hq4
                  go_wp2_with (go_at_call 8; refine HNU.out.mono ?_; rintro e w4 ⟨rfl, B4⟩)
                  go_roundw
                  case rel => exact ⟨2, acc + x * 65536, true, by omega, by omega, by go_num, rfl, by go_num, H82, HL3, HA2, HB.out.trans (B4.mono HB.out.size)⟩
                  case measure => simp [intOf]; omega
                · have hq4b : (q == 4) = false := by simpa using hq4
                  have hdd : decide (255 < x) = decide ((0 : Int) < (x : Int) / 256) := decide_eq_decide.2 ⟨fun h => by omega, fun h => by omega⟩
                  have HL3 : Hid (lg t xs = (decide ((0 : Int) < (x : Int) / 256) || lg t (xs.drop 2))) := by show _ = _; rw [HL2.out, decide_eq_false hq4, hdd]; rfl
                  clear HL2 hq4 hdd
                  go_wp2_with (go_at_call 8; refine HNU.out.mono ?_; rintro e w4 ⟨rfl, B4⟩)
                  go_roundw
                  case rel => exact ⟨2, acc + x * 65536, decide ((0 : Int) < (x : Int) / 256), by omega, by omega, by go_num, rfl, by go_num, H82, HL3, HA2, HB.out.trans (B4.mono HB.out.size)⟩
                  case measure => simp [intOf]; omega
            · have hsh : acc + x * 256 ^ (3 - 2) = acc + x * 256 := rfl
              rw [hsh] at HA2
              clear hsh
              have hac2 : acc ≤ 144115188075855872 := by omega
              clear hac
              cases g with
              | true =>
                have HL3 : Hid (lg t xs = (true || lg t (xs.drop 3))) := HL2.out
                clear HL2
                go_wp2_with (go_at_call 8; refine HNU.out.mono ?_; rintro e w4 ⟨rfl, B4⟩)
                go_roundw
                case rel => exact ⟨3, acc + x * 256, true, by omega, by omega, by go_num, rfl, by go_num, H82, HL3, HA2, HB.out.trans (B4.mono HB.out.size)⟩
                case measure => simp [intOf]; omega
              | false =>
                by_cases hq4 : q = 4
                · have hq4b : (q == 4) = true := by simpa using hq4
                  have HL3 : Hid (lg t xs = (true || lg t (xs.drop 3))) := by show _ = _; rw [HL2.out, decide_eq_true hq4]; rfl
                  clear HL2 hq4
                  go_wp2_with (go_at_call 8; refine HNU.out.mono ?_; rintro e w4 ⟨rfl, B4⟩)
                  go_roundw
                  case rel => exact ⟨3, acc + x * 256, true, by omega, by omega, by go_num, rfl, by go_num, H82, HL3, HA2, HB.out.trans (B4.mono HB.out.size)⟩
                  case measure => simp [intOf]; omega
                · have hq4b : (q == 4) = false := by simpa using hq4
                  have hdd : decide (255 < x) = decide ((0 : Int) < (x : Int) / 256) := decide_eq_decide.2 ⟨fun h => by omega, fun h => by omega⟩
                  have HL3 : Hid (lg t xs = (decide ((0 : Int) < (x : Int) / 256) || lg t (xs.drop 3))) := by show _ = _; rw [HL2.out, decide_eq_false hq4, hdd]; rfl
                  clear HL2 hq4 hdd
                  go_wp2_with (go_at_call 8; refine HNU.out.mono ?_; rintro e w4 ⟨rfl, B4⟩)
                  go_roundw
                  case rel => exact ⟨3, acc + x * 256, decide ((0 : Int) < (x : Int) / 256), by omega, by omega, by go_num, rfl, by go_num, H82, HL3, HA2, HB.out.trans (B4.mono HB.out.size)⟩
                  case measure => simp [intOf]; omega
          · have hjt : j + 1 = t := by omega
            obtain ⟨hs1, hs2⟩ := HLS.out hjt
            have HA2 : Hid (sm 0 xs = (acc + x) + sm (j + 1) (xs.drop (j + 1))) := by
              show _ = _
              have he : xs.drop (j + 1) = [] := List.drop_eq_nil_of_le (by rw [HLN.out]; omega)
              rw [HA.out, hs1, he]; rfl
            have HL2 : Hid (lg t xs = ((g || (decide (q = 4) || decide (256 ^ (5 - t) ≤ x))) || lg t (xs.drop (j + 1)))) := by
              show _ = _
              have he : xs.drop (j + 1) = [] := List.drop_eq_nil_of_le (by rw [HLN.out]; omega)
              rw [HL.out, hs2, he]
              show _ = (_ || false)
              rw [Bool.or_false]
            have he5 : 5 - t = 4 - j := by omega
            rw [he5] at HL2
            have hne : ((j : Int) == (t : Int) - 1) = true := by simp; omega
            clear hs1 hs2 HMO HLS HA HL he5 hjt
            obtain rfl | rfl | rfl | rfl : j = 0 ∨ j = 1 ∨ j = 2 ∨ j = 3 := by omega
            · have hsh : acc + x = acc + x := rfl
              rw [hsh] at HA2
              clear hsh
              have hac2 : acc ≤ 0 := by omega
              clear hac
              cases g with
              | true =>
                have HL3 : Hid (lg t xs = (true || lg t (xs.drop 1))) := HL2.out
                clear HL2
                go_wp2_with (go_at_call 8; refine HNU.out.mono ?_; rintro e w4 ⟨rfl, B4⟩)
                go_roundw
                case rel => exact ⟨1, acc + x, true, by omega, by omega, by go_num, rfl, by go_num, H82, HL3, HA2, HB.out.trans (B4.mono HB.out.size)⟩
                case measure => simp [intOf]; omega
              | false =>
                by_cases hq4 : q = 4
                · have hq4b : (q == 4) = true := by simpa using hq4
                  have HL3 : Hid (lg t xs = (true || lg t (xs.drop 1))) := by show _ = _; rw [HL2.out, decide_eq_true hq4]; rfl
                  clear HL2 hq4
                  go_wp2_with (go_at_call 8; refine HNU.out.mono ?_; rintro e w4 ⟨rfl, B4⟩)
                  go_roundw
                  case rel => exact ⟨1, acc + x, true, by omega, by omega, by go_num, rfl, by go_num, H82, HL3, HA2, HB.out.trans (B4.mono HB.out.size)⟩
                  case measure => simp [intOf]; omega
                · have hq4b : (q == 4) = false := by simpa using hq4
                  have hdd : decide (256 ^ (4 - 0) ≤ x) = decide ((0 : Int) < (x : Int) / 4294967296) := decide_eq_decide.2 ⟨fun h => by omega, fun h => by omega⟩
                  have HL3 : Hid (lg t xs = (decide ((0 : Int) < (x : Int) / 4294967296) || lg t (xs.drop 1))) := by show _ = _; rw [HL2.out, decide_eq_false hq4, hdd]; rfl
                  clear HL2 hq4 hdd
                  go_wp2_with (go_at_call 8; refine HNU.out.mono ?_; rintro e w4 ⟨rfl, B4⟩)
                  go_roundw
                  case rel => exact ⟨1, acc + x, decide ((0 : Int) < (x : Int) / 4294967296), by omega, by omega, by go_num, rfl, by go_num, H82, HL3, HA2, HB.out.trans (B4.mono HB.out.size)⟩
                  case measure => simp [intOf]; omega
            · have hsh : acc + x = acc + x := rfl
              rw [hsh] at HA2
              clear hsh
              have hac2 : acc ≤ 72057594037927936 := by omega
              clear hac
              cases g with
              | true =>
                have HL3 : Hid (lg t xs = (true || lg t (xs.drop 2))) := HL2.out
                clear HL2
                go_wp2_with (go_at_call 8; refine HNU.out.mono ?_; rintro e w4 ⟨rfl, B4⟩)
                go_roundw
                case rel => exact ⟨2, acc + x, true, by omega, by omega, by go_num, rfl, by go_num, H82, HL3, HA2, HB.out.trans (B4.mono HB.out.size)⟩
                case measure => simp [intOf]; omega
              | false =>
                by_cases hq4 : q = 4
                · have hq4b : (q == 4) = true := by simpa using hq4
                  have HL3 : Hid (lg t xs = (true || lg t (xs.drop 2))) := by show _ = _; rw [HL2.out, decide_eq_true hq4]; rfl
                  clear HL2 hq4
                  go_wp2_with (go_at_call 8; refine HNU.out.mono ?_; rintro e w4 ⟨rfl, B4⟩)
                  go_roundw
                  case rel => exact ⟨2, acc + x, true, by omega, by omega, by go_num, rfl, by go_num, H82, HL3, HA2, HB.out.trans (B4.mono HB.out.size)⟩
                  case measure => simp [intOf]; omega
                · have hq4b : (q == 4) = false := by simpa using hq4
                  have hdd : decide (256 ^ (4 - 1) ≤ x) = decide ((0 : Int) < (x : Int) / 16777216) := decide_eq_decide.2 ⟨fun h => by omega, fun h => by omega⟩
                  have HL3 : Hid (lg t xs = (decide ((0 : Int) < (x : Int) / 16777216) || lg t (xs.drop 2))) := by show _ = _; rw [HL2.out, decide_eq_false hq4, hdd]; rfl
                  clear HL2 hq4 hdd
                  go_wp2_with (go_at_call 8; refine HNU.out.mono ?_; rintro e w4 ⟨rfl, B4⟩)
                  go_roundw
                  case rel => exact ⟨2, acc + x, decide ((0 : Int) < (x : Int) / 16777216), by omega, by omega, by go_num, rfl, by go_num, H82, HL3, HA2, HB.out.trans (B4.mono HB.out.size)⟩
                  case measure => simp [intOf]; omega
            · have hsh : acc + x = acc + x := rfl
              rw [hsh] at HA2
              clear hsh
              have hac2 : acc ≤ 144115188075855872 := by omega
              clear hac
              cases g with
              | true =>
                have HL3 : Hid (lg t xs = (true || lg t (xs.drop 3))) := HL2.out
                clear HL2
                go_wp2_with (go_at_call 8; refine HNU.out.mono ?_; rintro e w4 ⟨rfl, B4⟩)
                go_roundw
                case rel => exact ⟨3, acc + x, true, by omega, by omega, by go_num, rfl, by go_num, H82, HL3, HA2, HB.out.trans (B4.mono HB.out.size)⟩
                case measure => simp [intOf]; omega
              | false =>
                by_cases hq4 : q = 4
                · have hq4b : (q == 4) = true := by simpa using hq4
                  have HL3 : Hid (lg t xs = (true || lg t (xs.drop 3))) := by show _ = _; rw [HL2.out, decide_eq_true hq4]; rfl
                  clear HL2 hq4
                  go_wp2_with (go_at_call 8; refine HNU.out.mono ?_; rintro e w4 ⟨rfl, B4⟩)
                  go_roundw
                  case rel => exact ⟨3, acc + x, true, by omega, by omega, by go_num, rfl, by go_num, H82, HL3, HA2, HB.out.trans (B4.mono HB.out.size)⟩
                  case measure => simp [intOf]; omega
                · have hq4b : (q == 4) = false := by simpa using hq4
                  have hdd : decide (256 ^ (4 - 2) ≤ x) = decide ((0 : Int) < (x : Int) / 65536) := decide_eq_decide.2 ⟨fun h => by omega, fun h => by omega⟩
                  have HL3 : Hid (lg t xs = (decide ((0 : Int) < (x : Int) / 65536) || lg t (xs.drop 3))) := by show _ = _; rw [HL2.out, decide_eq_false hq4, hdd]; rfl
                  clear HL2 hq4 hdd
                  go_wp2_with (go_at_call 8; refine HNU.out.mono ?_; rintro e w4 ⟨rfl, B4⟩)
                  go_roundw
                  case rel => exact ⟨3, acc + x, decide ((0 : Int) < (x : Int) / 65536), by omega, by omega, by go_num, rfl, by go_num, H82, HL3, HA2, HB.out.trans (B4.mono HB.out.size)⟩
                  case measure => simp [intOf]; omega
            · have hsh : acc + x = acc + x := rfl
              rw [hsh] at HA2
              clear hsh
              have hac2 : acc ≤ 216172782113783808 := by omega
              clear hac
              cases g with
              | true =>
                have HL3 : Hid (lg t xs = (true || lg t (xs.drop 4))) := HL2.out
                clear HL2
                go_wp2_with (go_at_call 8; refine HNU.out.mono ?_; rintro e w4 ⟨rfl, B4⟩)
                go_roundw
                case rel => exact ⟨4, acc + x, true, by omega, by omega, by go_num, rfl, by go_num, H82, HL3, HA2, HB.out.trans (B4.mono HB.out.size)⟩
                case measure => simp [intOf]; omega
              | false =>
                by_cases hq4 : q = 4
                · have hq4b : (q == 4) = true := by simpa using hq4
                  have HL3 : Hid (lg t xs = (true || lg t (xs.drop 4))) := by show _ = _; rw [HL2.out, decide_eq_true hq4]; rfl
                  clear HL2 hq4
                  go_wp2_with (go_at_call 8; refine HNU.out.mono ?_; rintro e w4 ⟨rfl, B4⟩)
                  go_roundw
                  case rel => exact ⟨4, acc + x, true, by omega, by omega, by go_num, rfl, by go_num, H82, HL3, HA2, HB.out.trans (B4.mono HB.out.size)⟩
                  case measure => simp [intOf]; omega
                · have hq4b : (q == 4) = false := by simpa using hq4
                  have hdd : decide (256 ^ (4 - 3) ≤ x) = decide ((0 : Int) < (x : Int) / 256) := decide_eq_decide.2 ⟨fun h => by omega, fun h => by omega⟩
                  have HL3 : Hid (lg t xs = (decide ((0 : Int) < (x : Int) / 256) || lg t (xs.drop 4))) := by show _ = _; rw [HL2.out, decide_eq_false hq4, hdd]; rfl
                  clear HL2 hq4 hdd
                  go_wp2_with (go_at_call 8; refine HNU.out.mono ?_; rintro e w4 ⟨rfl, B4⟩)
                  go_roundw
                  case rel => exact ⟨4, acc + x, decide ((0 : Int) < (x : Int) / 256), by omega, by omega, by go_num, rfl, by go_num, H82, HL3, HA2, HB.out.trans (B4.mono HB.out.size)⟩
                  case measure => simp [intOf]; omega
      · obtain rfl : j = t := by omega
        have he : xs.drop j = [] := List.drop_eq_nil_of_le (by rw [HLN.out]; exact Nat.le_refl _)
        have ht : xs.take j = xs := List.take_of_length_le (by rw [HLN.out]; exact Nat.le_refl _)
        rw [ht] at H8
        rw [he] at HL HA
        have HL2 : Hid (lg j xs = g) := by show _ = _; rw [HL.out]; exact Bool.or_false _
        have HA2 : Hid (sm 0 xs = acc) := by show _ = _; rw [HA.out]; rfl
        have HP := hid (HPR.out.trans (if_neg (by rw [H8.out]; simp)))
        rw [HL2.out, HA2.out] at HP
        rw [HL2.out, HA2.out] at HSM
        have hltz : ¬ (j : Int) < (j : Int) := by omega
        clear he ht H8 HL HA HPR HL2 HA2 HCB HNM HSZ HLN
        cases g with
        | true =>
          have HP2 := hid (HP.out.trans (if_pos rfl))
          clear HP HSM
          go_wp2
          go_ret2
          exact HRT.out _ _ _ _ HP2.out rfl (HB1.out.trans (HB.out.mono HB1.out.size))
        | false =>
          have HP2 := hid (HP.out.trans (if_neg (by simp)))
          have hsm := HSM.out rfl
          clear HP HSM hac
          go_wp2
          go_ret2
          exact HRT.out _ _ _ _ HP2.out rfl (HB1.out.trans (HB.out.mono HB1.out.size))
  · have h4z : (4 : Int) < (qs.length : Int) := by omega
    have HP : Hid (prs (bn s) = (0, 8)) := by show _ = _; unfold prs adr; rw [if_pos h5]
    clear h5 h6 hcb
    go_wp2
    go_ret2
    exact HRT.out _ _ _ _ HP.out rfl HB1.out
end Go.Proofs.YtklplalfcpigcaaDoor.F
