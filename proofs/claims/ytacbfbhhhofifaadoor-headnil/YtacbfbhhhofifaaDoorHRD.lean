/- The document's first line. (Stage 19.) -/
import Derived.Test.YtacbfbhhhofifaaDoorHRK
import Derived.Test.YtacbfbhhhofifaaDoorGQ
import Derived.Deep.WholeRow
import Derived.Laws.ResultCell
namespace Go.Proofs.YtacbfbhhhofifaaDoor.Hd
open Go.RowKit
open Go.Proofs.YtacbfbhhhofifaaDoor.F (bn bn_length bn_append bn_inj bn_get byte_bd hid bn_extract isEmpty_false isEmpty_true str_eq same_eq)
set_option linter.unusedVariables false

theorem frst_no1 {l : List Int} (h : fnd l 32 0 = none) : frst l = (h0, 190) := by
  unfold frst
  simp only
  rw [if_pos (.inl (fnd_no h))]
theorem frst_no2 {l : List Int} {a : Nat} (h : fnd l 32 0 = some a) (h2 : fnd l 32 (a + 1) = none) : frst l = (h0, 190) := by
  obtain ⟨i1, i2, i3⟩ := fnd_yes h
  have h3 := fnd_no (fnd_next_no h2)
  unfold frst
  simp only
  rw [i3, List.drop_drop, if_pos (.inr (.inl (by rw [← h3])))]
/-- The version at a first line's end. -/
def vOk (v : List Int) : Bool := decide (v.length = 8) && decide (v.take 5 = [72, 84, 84, 80, 47]) && decide (v.getD 6 0 = 46) && dig (v.getD 5 0) && dig (v.getD 7 0)
theorem frst_of {l : List Int} {a b : Nat} (h : fnd l 32 0 = some a) (h2 : fnd l 32 (a + 1) = some b) : a < l.length ∧ a + 1 ≤ b ∧ b < l.length ∧
    frst l = if b = a + 1 ∨ tok (l.take a) = false ∨ ((l.drop (a + 1)).take (b - (a + 1))).all vis = false then (h0, 190)
      else if vOk (l.drop (b + 1)) = true then
        if (l.drop (b + 1)).getD 5 0 = 49 ∧ (l.drop (b + 1)).getD 7 0 ≤ 49 then (⟨l.take a, (l.drop (a + 1)).take (b - (a + 1)), (l.drop (b + 1)).getD 7 0 - 48, []⟩, 0) else (h0, 192)
      else (h0, 190) := by
  obtain ⟨i1, i2, i3⟩ := fnd_yes h
  obtain ⟨j0, j1⟩ := fnd_next h2
  obtain ⟨k1, k2, k3⟩ := fnd_yes j1
  rw [List.length_drop] at k1
  refine ⟨i1, j0, by omega, ?_⟩
  have ea : l.drop a ≠ [] := by intro e; have := congrArg List.length e; simp at this; omega
  have eb : (l.drop (a + 1)).drop (b - (a + 1)) ≠ [] := by intro e; have := congrArg List.length e; simp at this; omega
  have e2 : (l.drop (a + 1)).drop (b - (a + 1)) = l.drop b := by rw [List.drop_drop]; congr 1; omega
  have e3 : (l.drop b).drop 1 = l.drop (b + 1) := by rw [List.drop_drop]
  have e1 : (l.drop a).drop 1 = l.drop (a + 1) := by rw [List.drop_drop]
  have eB : ((l.drop (a + 1)).take (b - (a + 1)) = []) ↔ b = a + 1 := by
    constructor
    · intro e
      have := congrArg List.length e
      rw [List.length_take, List.length_drop] at this
      simp at this; omega
    · rintro rfl; simp
  unfold frst
  simp only
  rw [i2, i3, e1, k2, k3, e2, e3]
  rw [← e2]
  have hv : (vOk (l.drop (b + 1)) = true) = ((l.drop (b + 1)).length = 8 ∧ (l.drop (b + 1)).take 5 = [72, 84, 84, 80, 47] ∧ (l.drop (b + 1)).getD 6 0 = 46 ∧ dig ((l.drop (b + 1)).getD 5 0) = true ∧ dig ((l.drop (b + 1)).getD 7 0) = true) := by
    unfold vOk
    simp only [Bool.and_eq_true, decide_eq_true_iff, and_assoc]
  simp only [ea, eb, eB, hv, false_or]
theorem info_hd (a b c d : Value) : (Tryd.prog.info? 27).map (·.size) = some (#[a, b, c, d] : Array Value).size := by kernel_rfl
theorem vOk_of (t : List Int) : vOk t = (decide (t.length = 8) && decide (t.take 5 = [72, 84, 84, 80, 47]) && decide (t.getD 6 0 = 46) && dig (t.getD 5 0) && dig (t.getD 7 0)) := rfl
def FiR (s : ByteArray) (e : Ending) : Prop := ∃ (M T : ByteArray) (v : Int) (E : Nat), frst (bn s) = (⟨bn M, bn T, v, []⟩, E) ∧ 0 ≤ v ∧ v ≤ 255 ∧ e = .returned (.tuple #[.agg #[.string M, .string T, .int .u8 v, .slice none 0 0], .int .i64 E])
theorem FiR.no {s : ByteArray} {E : Nat} (h : frst (bn s) = (h0, E)) : FiR s (.returned (.tuple #[.agg #[.string ⟨#[]⟩, .string ⟨#[]⟩, .int .u8 0, .slice none 0 0], .int .i64 E])) := ⟨⟨#[]⟩, ⟨#[]⟩, 0, E, h, by decide, by decide, rfl⟩
set_option maxRecDepth 100000 in
set_option maxHeartbeats 4000000 in
theorem rfirst_any (s : ByteArray) (hs : s.size ≤ 1000000) (w : World) : Calls Tryd.prog 22 #[.string s] w fun e W' => FiR s e ∧ Below w.heap.size w W' := by
  have HF1 : Hid (∀ W, Calls Tryd.prog 27 #[.string s, .int .u8 32, .int .i64 0] W fun e W' => e = .returned (.int .i64 (opt (fnd (bn s) 32 0))) ∧ W' = W) := fun W => rfind_any s hs 32 0 (by omega) W
  cases ha : fnd (bn s) 32 0 with
  | none =>
    have HN : Hid (frst (bn s) = (h0, 190)) := frst_no1 ha
    rw [ha] at HF1
    go_enter Tryd.func22, Tryd.ntmps22
    go_wp2_with fail
    refine (HF1.out _).mono ?_
    rintro e w5 ⟨rfl, rfl⟩
    have hn : opt none = -1 := rfl
    go_wp2
    exact bodyPost_ret (results_hd Tryd.results22 _ _ w.heap.size 27 _ (0, 0) _ rfl (heap_alloc_last w _) Tryd.underlying27 (info_hd _ _ _ _)) rfl ⟨FiR.no HN.out, (Below.refl _ w).alloc (Nat.le_refl _) _⟩
  | some a =>
    rw [ha] at HF1
    have hal : a < s.size := by have := (fnd_yes ha).1; rw [bn_length] at this; exact this
    have HF2 : Hid (∀ W, Calls Tryd.prog 27 #[.string s, .int .u8 32, .int .i64 ((a : Int) + 1)] W fun e W' => e = .returned (.int .i64 (opt (fnd (bn s) 32 (a + 1)))) ∧ W' = W) := fun W => rfind_any s hs 32 (a + 1) (by omega) W
    have HN2 : Hid (∀ (h : fnd (bn s) 32 (a + 1) = none), frst (bn s) = (h0, 190)) := fun h => frst_no2 ha h
    have HY2 : Hid (∀ b (h : fnd (bn s) 32 (a + 1) = some b), _) := fun b h => frst_of ha h
    have HTK : Hid (∀ W, Calls Tryd.prog 13 #[.string (s.extract 0 a)] W fun e W' => e = .returned (.bool (tok (bn (s.extract 0 a)))) ∧ W' = W) := fun W => rtoken_any (s.extract 0 a) (by simp; omega) W
    have HTA : Hid (bn (s.extract 0 a) = (bn s).take a) := bn_take s a (by omega)
    have hn : opt (some a) = (a : Int) := rfl
    clear ha
    go_enter Tryd.func22, Tryd.ntmps22
    go_wp2_with fail
    refine (HF1.out _).mono ?_
    rintro e w5 ⟨rfl, rfl⟩
    clear HF1
    rw [hn]
    have ha0 : ¬ (a : Int) < 0 := by omega
    go_wp2_with fail
    refine (HF2.out _).mono ?_
    rintro e w5 ⟨rfl, rfl⟩
    clear HF2
    cases hb : fnd (bn s) 32 (a + 1) with
    | none =>
      have HN : Hid (frst (bn s) = (h0, 190)) := HN2.out hb
      have hn2 : opt none = -1 := rfl
      clear hb HN2 HY2 HTK
      go_wp2
      exact bodyPost_ret (results_hd Tryd.results22 _ _ w.heap.size 27 _ (0, 0) _ rfl (heap_alloc_last w _) Tryd.underlying27 (info_hd _ _ _ _)) rfl ⟨FiR.no HN.out, (Below.refl _ w).alloc (Nat.le_refl _) _⟩
    | some b =>
      obtain ⟨_, hab, hbl, hE⟩ := HY2.out b hb
      rw [bn_length] at hbl
      have HE := hid hE
      have hn2 : opt (some b) = (b : Int) := rfl
      clear hE hb HN2 HY2
      rw [hn2]
      clear hn2
      have hb0 : ¬ (b : Int) < 0 := by omega
      by_cases hab2 : b = a + 1
      · have HN : Hid (frst (bn s) = (h0, 190)) := by show _ = _; rw [HE.out, if_pos (.inl hab2)]
        have hz : (b : Int) = (a : Int) + 1 := by omega
        clear HTK HE hab2
        go_wp2
        exact bodyPost_ret (results_hd Tryd.results22 _ _ w.heap.size 27 _ (0, 0) _ rfl (heap_alloc_last w _) Tryd.underlying27 (info_hd _ _ _ _)) rfl ⟨FiR.no HN.out, (Below.refl _ w).alloc (Nat.le_refl _) _⟩
      have hz : ((b : Int) == (a : Int) + 1) = false := by simp; omega
      have hz0 : decide ((b : Int) < 0) = false := decide_eq_false hb0
      go_wp2_with fail
      refine (HTK.out _).mono ?_
      rintro e w5 ⟨rfl, rfl⟩
      clear HTK
      cases ht : tok (bn (s.extract 0 a)) with
      | false =>
        have HN : Hid (frst (bn s) = (h0, 190)) := by show _ = _; rw [HE.out, if_pos (.inr (.inl (by rw [← HTA.out]; exact ht)))]
        clear HE ht
        go_wp2
        exact bodyPost_ret (results_hd Tryd.results22 _ _ w.heap.size 27 _ (0, 0) _ rfl (heap_alloc_last w _) Tryd.underlying27 (info_hd _ _ _ _)) rfl ⟨FiR.no HN.out, (Below.refl _ w).alloc (Nat.le_refl _) _⟩
      | true =>
        have HT := hid (by rw [HTA.out] at ht; exact ht : tok ((bn s).take a) = true)
        clear ht
        go_wp2_with fail
        have HVI : Hid (∀ i, a + 1 ≤ i → i < b → ∀ y, (bn s)[i]?.getD 0 = y → vis y = false → frst (bn s) = (h0, 190)) := fun i h1 h2 y hy hv => by
          have hh : (((bn s).drop (a + 1)).take (b - (a + 1))).all vis = false := by
            refine Bool.eq_false_iff.2 fun hall => ?_
            rw [List.all_eq_true] at hall
            have hl : i < (bn s).length := by rw [bn_length]; omega
            have := hall y (by
              rw [← hy, List.getElem?_eq_getElem hl]
              rw [List.mem_take_iff_getElem]
              refine ⟨i - (a + 1), by simp; omega, ?_⟩
              simp only [List.getElem_drop, Option.getD_some]
              congr 1
              omega)
            rw [hv] at this; cases this
          show _ = _
          rw [HE.out, if_pos (.inr (.inr hh))]
        have HVA : Hid ((∀ i, a + 1 ≤ i → i < b → vis ((bn s)[i]?.getD 0) = true) → ((bn s).drop (a + 1) |>.take (b - (a + 1))).all vis = true) := fun h => by
          rw [List.all_eq_true]
          intro x hx
          rw [List.mem_take_iff_getElem] at hx
          obtain ⟨k, hk, rfl⟩ := hx
          have hl : a + 1 + k < (bn s).length := by simp at hk; omega
          have := h (a + 1 + k) (by omega) (by simp at hk; omega)
          rw [List.getElem?_eq_getElem hl] at this
          simpa using this
        have HGT := hid (bn_get s)
        have HBY := hid (fun j (h : j < s.size) => byte_bd (s := s) h)
        go_loopw [6] (fun v6 wr => ∃ i : Nat, a + 1 ≤ i ∧ i ≤ b ∧ v6 = .int .i64 (i : Int) ∧ Hid (∀ j, a + 1 ≤ j → j < i → vis ((bn s)[j]?.getD 0) = true) ∧ wr = w.alloc (.cells #[.string ⟨#[]⟩, .string ⟨#[]⟩, .int .u8 0, .slice none 0 0] 27)) (fun v6 _ => b - (intOf v6).toNat)
        case atStart => exact ⟨a + 1, Nat.le_refl _, hab, by go_num, fun j h1 h2 => absurd h2 (by omega), rfl⟩
        case round =>
          obtain ⟨i, hi1, hi2, rfl, HR, rfl⟩ := hrel
          by_cases hlt : i < b
          · have hltz : (i : Int) < (b : Int) := by omega
            have his : i < s.size := by omega
            have hg := (HGT.out i his).symm
            obtain ⟨q0, q1⟩ := HBY.out i his
            have HNO := hid (HVI.out i hi1 hlt)
            obtain ⟨y, hy⟩ : ∃ y, (bn s)[i]?.getD 0 = y := ⟨_, rfl⟩
            have HY := hid hy
            rw [hy] at hg q0 q1
            clear hy HGT HBY HVI HVA HE HTA HT
            by_cases h33 : y < 33
            · have HN : Hid (frst (bn s) = (h0, 190)) := HNO.out y HY.out (by unfold vis; exact decide_eq_false (by omega))
              clear HNO HR
              go_wp2
              exact bodyPost_ret (results_hd Tryd.results22 _ _ w.heap.size 27 _ (0, 0) _ rfl (heap_alloc_last w _) Tryd.underlying27 (info_hd _ _ _ _)) rfl ⟨FiR.no HN.out, (Below.refl _ w).alloc (Nat.le_refl _) _⟩

            · by_cases h126 : 126 < y
              · have HN : Hid (frst (bn s) = (h0, 190)) := HNO.out y HY.out (by unfold vis; exact decide_eq_false (by omega))
                clear HNO HR
                go_wp2
                exact bodyPost_ret (results_hd Tryd.results22 _ _ w.heap.size 27 _ (0, 0) _ rfl (heap_alloc_last w _) Tryd.underlying27 (info_hd _ _ _ _)) rfl ⟨FiR.no HN.out, (Below.refl _ w).alloc (Nat.le_refl _) _⟩

              · have HV : Hid (vis y = true) := by show _ = _; unfold vis; exact decide_eq_true (by omega)
                clear HNO
                go_wp2
                go_roundw
                case rel => exact ⟨i + 1, by omega, by omega, by go_num, fun j h1 h2 => by
                  by_cases h : j < i
                  · exact HR.out j h1 h
                  · obtain rfl : j = i := by omega
                    rw [HY.out]; exact HV.out, by first | rfl | trivial⟩
                case measure => simp [intOf]; omega
          · have hltz : ¬ (i : Int) < (b : Int) := by omega
            obtain rfl : i = b := by omega
            have HAV := hid (HVA.out fun j h1 h2 => HR.out j h1 h2)
            have HE2 := hid (HE.out.trans (if_neg (by rintro (h | h | h); exact hab2 h; rw [HT.out] at h; cases h; rw [HAV.out] at h; cases h)))
            have HX := hid (bn_extract s (i + 1))
            clear HR HVI HVA HE HGT HBY
            obtain ⟨t, ht⟩ : ∃ t, s.extract (i + 1) s.size = t := ⟨_, rfl⟩
            have hts : t.size = s.size - (i + 1) := by rw [← ht]; simp
            have hib : i + 1 ≤ s.size := by omega
            go_upto_region 13 with fail
            rw [ht] at HX
            clear ht
            have HTS := hid hts
            clear hts
            obtain ⟨q, hq⟩ : ∃ q, vOk (bn t) = q := ⟨_, rfl⟩
            have HV := hid hq
            clear hq
            have HL := hid (bn_length t)
            go_cut [87] from 55 to 87 (fun v87 wc => v87 = .bool (!q) ∧ wc = w.alloc (.cells #[.string ⟨#[]⟩, .string ⟨#[]⟩, .int .u8 0, .slice none 0 0] 27))
            case first =>
              have H5 := hid (bn_take t)
              have H6 := hid (bn_get t)
              have H7 : Hid (∀ i, (bn t).getD i 0 = (bn t)[i]?.getD 0) := fun i => List.getD_eq_getElem?_getD
              clear HX HE2 HAV HTA HT
              by_cases h8 : t.size = 8
              · have h5s := H5.out 5 (by omega)
                have hg5 := (H6.out 5 (by omega)).symm
                have hg6 := (H6.out 6 (by omega)).symm
                have hg7 := (H6.out 7 (by omega)).symm
                have HVV : Hid (q = (decide (bn (t.extract 0 5) = [72, 84, 84, 80, 47]) && decide ((bn t)[6]?.getD 0 = 46) && dig ((bn t)[5]?.getD 0) && dig ((bn t)[7]?.getD 0))) := by
                  show _ = _
                  rw [← HV.out, vOk_of, HL.out, decide_eq_true h8, h5s, H7.out, H7.out, H7.out, Bool.true_and]
                have l5 : 5 < t.size := by omega
                have l6 : 6 < t.size := by omega
                have l7 : 7 < t.size := by omega
                obtain ⟨y5, hy5⟩ : ∃ y, (bn t)[5]?.getD 0 = y := ⟨_, rfl⟩
                obtain ⟨y6, hy6⟩ : ∃ y, (bn t)[6]?.getD 0 = y := ⟨_, rfl⟩
                obtain ⟨y7, hy7⟩ : ∃ y, (bn t)[7]?.getD 0 = y := ⟨_, rfl⟩
                rw [hy5] at hg5 HVV
                rw [hy6] at hg6 HVV
                rw [hy7] at hg7 HVV
                have HS := hid (F.str_eq (t.extract 0 5) ⟨#[72, 84, 84, 80, 47]⟩)
                have HS2 : Hid (bn ⟨#[72, 84, 84, 80, 47]⟩ = [72, 84, 84, 80, 47]) := rfl
                rw [HS2.out] at HS
                clear h5s hy5 hy6 hy7 H5 H6 H7 HV HL HS2
                have hts8 : (t.size : Int) = 8 := by omega
                by_cases hp : bn (t.extract 0 5) = [72, 84, 84, 80, 47]
                · have hpp : (t.extract 0 5).toList = [72, 84, 84, 80, 47] := by
                    have := HS.out.trans (decide_eq_true hp)
                    rw [beq_iff_eq] at this
                    exact this.trans (by rw [ByteArray.toList_eq])
                  rw [decide_eq_true hp, Bool.true_and] at HVV
                  clear HS hp
                  by_cases h6 : y6 = 46
                  · by_cases h5a : y5 < 48
                    · have HQ : Hid ((!q) = true) := by show _ = _; rw [HVV.out]; unfold dig; rw [decide_eq_false (show ¬ (48 ≤ y5 ∧ y5 ≤ 57) by omega)]; simp
                      clear HVV
                      go_wp2
                      go_meet
                      case rel => exact ⟨by rw [HQ.out] <;> rfl, by first | rfl | trivial⟩
                    · by_cases h5b : 57 < y5
                      · have HQ : Hid ((!q) = true) := by show _ = _; rw [HVV.out]; unfold dig; rw [decide_eq_false (show ¬ (48 ≤ y5 ∧ y5 ≤ 57) by omega)]; simp
                        clear HVV
                        go_wp2
                        go_meet
                        case rel => exact ⟨by rw [HQ.out] <;> rfl, by first | rfl | trivial⟩
                      · by_cases h7a : y7 < 48
                        · have HQ : Hid ((!q) = true) := by show _ = _; rw [HVV.out]; unfold dig; rw [decide_eq_false (show ¬ (48 ≤ y7 ∧ y7 ≤ 57) by omega)]; simp
                          clear HVV
                          go_wp2
                          go_meet
                          case rel => exact ⟨by rw [HQ.out] <;> rfl, by first | rfl | trivial⟩
                        · by_cases h7b : 57 < y7
                          · have HQ : Hid ((!q) = true) := by show _ = _; rw [HVV.out]; unfold dig; rw [decide_eq_false (show ¬ (48 ≤ y7 ∧ y7 ≤ 57) by omega)]; simp
                            clear HVV
                            go_wp2
                            go_meet
                            case rel => exact ⟨by rw [HQ.out] <;> rfl, by first | rfl | trivial⟩
                          · have h7c : ¬ y7 < 48 := h7a
                            have HQ : Hid ((!q) = false) := by show _ = _; rw [HVV.out]; unfold dig; rw [decide_eq_true h6, decide_eq_true (show 48 ≤ y5 ∧ y5 ≤ 57 by omega), decide_eq_true (show 48 ≤ y7 ∧ y7 ≤ 57 by omega)]; rfl
                            clear HVV
                            go_wp2
                            go_meet
                            case rel => exact ⟨by rw [HQ.out] <;> rfl, by first | rfl | trivial⟩
                  · have b6 : (y6 == 46) = false := by simpa using h6
                    have HQ : Hid ((!q) = true) := by show _ = _; rw [HVV.out]; rw [decide_eq_false h6]; rfl
                    clear HVV
                    go_wp2
                    go_meet
                    case rel => exact ⟨by rw [HQ.out] <;> rfl, by first | rfl | trivial⟩
                · have hpp : ¬ (t.extract 0 5).toList = [72, 84, 84, 80, 47] := fun h => by
                    have := HS.out.trans (decide_eq_false hp)
                    rw [h, ByteArray.toList_eq] at this
                    cases this
                  rw [decide_eq_false hp] at HVV
                  clear HS hp
                  have HQ : Hid ((!q) = true) := by show _ = _; rw [HVV.out]; rfl
                  clear HVV
                  go_wp2
                  go_meet
                  case rel => exact ⟨by rw [HQ.out] <;> rfl, by first | rfl | trivial⟩
              · have HQ : Hid ((!q) = true) := by show _ = _; rw [← HV.out, vOk_of, HL.out, decide_eq_false h8]; rfl
                have hz8 : ((t.size : Int) == 8) = false := by simp; omega
                clear HV HL H5 H6 H7
                go_wp2
                go_meet
                case rel => exact ⟨by rw [HQ.out] <;> rfl, by first | rfl | trivial⟩
            case rest =>
              obtain ⟨rfl, rfl⟩ := hcut
              cases q with
              | false =>
                have HN : Hid (frst (bn s) = (h0, 190)) := by show _ = _; rw [HE2.out, ← HX.out, if_neg (by rw [HV.out]; decide)]
                clear HE2 HX HV HL HTS HAV HT HTA
                go_wp2
                exact bodyPost_ret (results_hd Tryd.results22 _ _ w.heap.size 27 _ (0, 0) _ rfl (heap_alloc_last w _) Tryd.underlying27 (info_hd _ _ _ _)) rfl ⟨FiR.no HN.out, (Below.refl _ w).alloc (Nat.le_refl _) _⟩
              | true =>
                have h8 : t.size = 8 := by
                  have := HV.out
                  rw [vOk_of] at this
                  simp only [Bool.and_eq_true, decide_eq_true_iff] at this
                  rw [← HL.out]; exact this.1.1.1.1
                have HE3 := hid (HE2.out.trans (if_pos (by rw [← HX.out]; exact HV.out)))
                rw [← HX.out, List.getD_eq_getElem?_getD, List.getD_eq_getElem?_getD] at HE3
                have hd7 : dig ((bn t)[7]?.getD 0) = true := by
                  have := HV.out
                  rw [vOk_of] at this
                  simp only [Bool.and_eq_true, decide_eq_true_iff] at this
                  rw [← List.getD_eq_getElem?_getD]; exact this.2
                have hg5 := (bn_get t 5 (by omega)).symm
                have hg7 := (bn_get t 7 (by omega)).symm
                have l5 : 5 < t.size := by omega
                have l7 : 7 < t.size := by omega
                obtain ⟨y5, hy5⟩ : ∃ y, (bn t)[5]?.getD 0 = y := ⟨_, rfl⟩
                obtain ⟨y7, hy7⟩ : ∃ y, (bn t)[7]?.getD 0 = y := ⟨_, rfl⟩
                rw [hy5] at hg5 HE3
                rw [hy7] at hg7 HE3 hd7
                have h7d : 48 ≤ y7 ∧ y7 ≤ 57 := of_decide_eq_true hd7
                obtain ⟨h7a, h7b⟩ := h7d
                clear hy5 hy7 HE2 HX HV HL HTS HAV HT hd7
                have hts8 : (t.size : Int) = 8 := by omega
                by_cases h5 : y5 = 49
                · by_cases h7 : 49 < y7
                  · have HN : Hid (frst (bn s) = (h0, 192)) := by show _ = _; rw [HE3.out, if_neg (by omega)]
                    clear HE3 HTA
                    go_wp2
                    exact bodyPost_ret (results_hd Tryd.results22 _ _ w.heap.size 27 _ (0, 0) _ rfl (heap_alloc_last w _) Tryd.underlying27 (info_hd _ _ _ _)) rfl ⟨FiR.no HN.out, (Below.refl _ w).alloc (Nat.le_refl _) _⟩
                  · have HN := hid (HE3.out.trans (if_pos (by omega)))
                    clear HE3
                    have h7' : y7 ≤ 49 := by omega
                    go_wp2_with fail
                    have hw1 : IntKind.i64.wrap ((a : Int) + 1) = (a : Int) + 1 := by simp [IntKind.wrap, IntKind.bits, IntKind.signed]; omega
                    have hw2 : IntKind.u8.wrap (y7 - 48) = y7 - 48 := by simp [IntKind.wrap, IntKind.bits, IntKind.signed]; omega
                    have hsl : ∀ W, (Instr.slice 9 (.string s) (some (.int .i64 ((a : Int) + 1))) (some (.int .i64 (i : Int))) none).run Tryd.prog W = .ok (.string (s.extract (a + 1) i)) W := fun W => by
                      have := run_slice_string (P := Tryd.prog) W 9 s .i64 .i64 ((a + 1 : Nat) : Int) (i : Int) Tryd.underlying9 (by omega) (by omega) (by omega)
                      simpa using this
                    refine E.wp_region_free 11 (by kernel_rfl) (by kernel_rfl) ?_
                    simp only [List.take_succ_cons, List.take_zero, List.drop_succ_cons, List.drop_zero]
                    refine E.wpFree_val (.string s) rfl (fun W => by go_simp) ?_
                    refine E.wpFree_val (.int .i64 (a : Int)) rfl (fun W => by go_simp) ?_
                    refine E.wpFree_val (.string (s.extract 0 a)) rfl (fun W => by go_simp <;> omega) ?_
                    refine E.wpFree_val (.string s) rfl (fun W => by go_simp) ?_
                    refine E.wpFree_val (.int .i64 (a : Int)) rfl (fun W => by go_simp) ?_
                    refine E.wpFree_val (.int .i64 ((a : Int) + 1)) rfl (fun W => by go_simp <;> first | exact hw1 | omega) ?_
                    refine E.wpFree_val (.int .i64 (i : Int)) rfl (fun W => by go_simp) ?_
                    refine E.wpFree_val (.string (s.extract (a + 1) i)) rfl (fun W => by go_simp <;> simp [hsl W, Result.andThen]) ?_
                    refine E.wpFree_val (.string t) rfl (fun W => by go_simp) ?_
                    refine E.wpFree_val (.int .u8 y7) rfl (fun W => by go_simp <;> omega) ?_
                    refine E.wpFree_val (.int .u8 (y7 - 48)) rfl (fun W => by go_simp <;> first | exact hw2 | omega) ?_
                    refine E.wpFree_nil ?_
                    show wpList _ _ _ _ _ (World.drew _)
                    go_wp2
                    refine ⟨rfl, ?_⟩
                    go_wp2
                    refine bodyPost_ret (results_hd Tryd.results22 _ _ w.heap.size 27 _ (0, 0) _ rfl (heap_alloc_last w _) Tryd.underlying27 (info_hd _ _ _ _)) rfl ⟨⟨s.extract 0 a, s.extract (a + 1) i, y7 - 48, 0, ?_, by omega, by omega, rfl⟩, (fun h => ⟨h.os, h.tape, h.output, h.size, h.block⟩) ((Below.refl _ w).alloc (Nat.le_refl _) _)⟩
                    rw [HN.out, HTA.out, bn_mid]
                · have HN : Hid (frst (bn s) = (h0, 192)) := by show _ = _; rw [HE3.out, if_neg (by omega)]
                  have b5 : (y5 == 49) = false := by simpa using h5
                  clear HE3 HTA
                  go_wp2
                  exact bodyPost_ret (results_hd Tryd.results22 _ _ w.heap.size 27 _ (0, 0) _ rfl (heap_alloc_last w _) Tryd.underlying27 (info_hd _ _ _ _)) rfl ⟨FiR.no HN.out, (Below.refl _ w).alloc (Nat.le_refl _) _⟩
end Go.Proofs.YtacbfbhhhofifaaDoor.Hd
