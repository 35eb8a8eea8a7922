/- The document's Ends. (Stage 19.) -/
import Derived.Test.YtacbfbhhhofifaaDoorHRA
namespace Go.Proofs.YtacbfbhhhofifaaDoor.Hd
open Go.RowKit
open Go.Proofs.YtacbfbhhhofifaaDoor.F (bn bn_length bn_append bn_inj bn_get byte_bd hid bn_extract isEmpty_false isEmpty_true str_eq same_eq)
set_option linter.unusedVariables false

theorem bn_take (s : ByteArray) (k : Nat) (hk : k ≤ s.size) : bn (s.extract 0 k) = (bn s).take k := by
  unfold bn
  have e : (s.extract 0 k).data.toList = s.data.toList.take k := by
    rw [ByteArray.data_extract, Array.toList_extract]
    simp
  rw [e, List.map_take]
theorem fnd_none (l : List Int) (c : Int) : fnd l c 0 = none ↔ l.all (nb c) = true := by
  unfold fnd
  rw [List.drop_zero, Option.map_eq_none_iff, List.findIdx?_eq_none_iff, List.all_eq_true]
  unfold nb
  simp
theorem opt_neg (l : List Int) (c : Int) : decide (opt (fnd l c 0) < 0) = l.all (nb c) := by
  rw [Bool.eq_iff_iff, decide_eq_true_iff, ← fnd_none]
  cases fnd l c 0 with
  | none => simp [opt]
  | some k => simp [opt]
theorem ends_of {l : List Int} {m : Nat} (h : l.length = m + 2) : ends l = (decide (l[m]?.getD 0 = 13) && decide (l[m + 1]?.getD 0 = 10) && (l.take m).all (nb 13)) := by
  unfold ends
  rw [h, show m + 2 - 2 = m by omega]
  congr 1
  rw [List.drop_eq_getElem_cons (by omega), List.drop_eq_getElem_cons (by omega), List.drop_eq_nil_of_le (by omega), List.getElem?_eq_getElem (by omega), List.getElem?_eq_getElem (by omega), ← Bool.decide_and]
  simp
theorem ends_few {l : List Int} (h : l.length < 2) : ends l = false := by
  unfold ends
  rw [decide_eq_false (by omega)]; rfl
set_option maxRecDepth 100000 in
set_option maxHeartbeats 4000000 in
theorem rends_any (s : ByteArray) (hs : s.size ≤ 1000000) (w : World) : Calls Tryd.prog 21 #[.string s] w fun e W' => e = .returned (.bool (ends (bn s))) ∧ W' = w := by
  by_cases h2 : s.size < 2
  · have HE : Hid (ends (bn s) = false) := ends_few (by rw [bn_length]; exact h2)
    have hz : ¬ (2 : Int) ≤ (s.size : Int) := by omega
    go_enter Tryd.func21, Tryd.ntmps21
    go_wp2
    go_ret
    exact ⟨by rw [HE.out]; rfl, rfl⟩
  obtain ⟨m, hm⟩ : ∃ m, s.size = m + 2 := ⟨s.size - 2, by omega⟩
  have HE : Hid (ends (bn s) = _) := ends_of (m := m) (by rw [bn_length]; exact hm)
  have hg1 := (bn_get s m (by omega)).symm
  have hg2 := (bn_get s (m + 1) (by omega)).symm
  have HA : Hid (bn (s.extract 0 m) = (bn s).take m) := bn_take s m (by omega)
  obtain ⟨y1, hy1⟩ : ∃ y, (bn s)[m]?.getD 0 = y := ⟨_, rfl⟩
  obtain ⟨y2, hy2⟩ : ∃ y, (bn s)[m + 1]?.getD 0 = y := ⟨_, rfl⟩
  have HFI : Hid (∀ W, Calls Tryd.prog 27 #[.string (s.extract 0 m), .int .u8 13, .int .i64 0] W fun e W' => e = .returned (.int .i64 (opt (fnd (bn (s.extract 0 m)) 13 0))) ∧ W' = W) := fun W => rfind_any (s.extract 0 m) (by simp; omega) 13 0 (by omega) W
  rw [hy1, hy2] at HE
  rw [hy1] at hg1
  rw [hy2] at hg2
  clear hy1 hy2
  have hz : (2 : Int) ≤ (s.size : Int) := by omega
  have hlt1 : m < s.size := by omega
  have hlt2 : m + 1 < s.size := by omega
  have en : (s.size : Int) = ((m + 2 : Nat) : Int) := by rw [hm]
  by_cases e1 : y1 = 13
  · by_cases e2 : y2 = 10
    · go_enter Tryd.func21, Tryd.ntmps21
      go_wp2_with fail
      refine (HFI.out _).mono ?_
      rintro e w5 ⟨rfl, rfl⟩
      have HO := hid (opt_neg (bn (s.extract 0 m)) 13)
      obtain ⟨x, hx⟩ : ∃ x, opt (fnd (bn (s.extract 0 m)) 13 0) = x := ⟨_, rfl⟩
      rw [hx] at HO ⊢
      rw [HA.out] at HO
      have E : Hid (ends (bn s) = decide (x < 0)) := by show _ = _; rw [HE.out, HO.out]; simp [e1, e2]
      clear hx HE HFI HO HA
      go_wp2
      go_ret
      exact ⟨by rw [E.out]; rfl, rfl⟩
    · go_enter Tryd.func21, Tryd.ntmps21
      have b2 : (y2 == 10) = false := by simpa using e2
      have E : Hid (ends (bn s) = false) := by show _ = _; rw [HE.out]; simp [e2]
      clear HE
      go_wp2
      go_ret
      exact ⟨by rw [E.out]; rfl, rfl⟩
  · go_enter Tryd.func21, Tryd.ntmps21
    have b1 : (y1 == 13) = false := by simpa using e1
    have E : Hid (ends (bn s) = false) := by show _ = _; rw [HE.out]; simp [e1]
    clear HE
    go_wp2
    go_ret
    exact ⟨by rw [E.out]; rfl, rfl⟩
def bE (l : List Int) : List Int := (l.reverse.dropWhile bl).reverse
theorem trm_of (l : List Int) : trm l = bE (l.dropWhile bl) := rfl
theorem bE_snoc (l : List Int) (c : Int) : bE (l ++ [c]) = if bl c = true then bE l else l ++ [c] := by
  unfold bE
  rw [List.reverse_append, List.reverse_singleton, List.singleton_append, List.dropWhile_cons]
  split
  · rfl
  · simp
theorem bn_drop1 (s : ByteArray) (h : 0 < s.size) : (bn s).dropWhile bl = if bl ((bn s)[0]?.getD 0) = true then ((bn s).drop 1).dropWhile bl else bn s := by
  have hl : 0 < (bn s).length := by rw [bn_length]; exact h
  match e : bn s, hl with
  | c :: l, _ => 
    rw [List.dropWhile_cons]
    rfl
theorem bE_last (s : ByteArray) (m : Nat) (h : s.size = m + 1) : bE (bn s) = if bl ((bn s)[m]?.getD 0) = true then bE (bn (s.extract 0 m)) else bn s := by
  have e : bn s = bn (s.extract 0 m) ++ [(bn s)[m]?.getD 0] := by
    rw [bn_take s m (by omega)]
    have hl : (bn s).length = m + 1 := by rw [bn_length]; exact h
    rw [← F.take_one (bn s) m (by omega), List.take_of_length_le (by omega)]
  conv => lhs; rw [e, bE_snoc]
  rw [← e]
set_option maxRecDepth 100000 in
set_option maxHeartbeats 4000000 in
theorem rtrim_any (s : ByteArray) (hs : s.size ≤ 1000000) (w : World) : Calls Tryd.prog 29 #[.string s] w fun e W' => (∃ t : ByteArray, bn t = trm (bn s) ∧ e = .returned (.string t)) ∧ W' = w := by
  have HBL : Hid (∀ c : Int, bl c = (decide (c = 32) || decide (c = 9))) := fun c => by unfold bl; rw [Bool.decide_or]
  have HD1 := hid bn_drop1
  have HEX := hid bn_extract
  obtain ⟨R, hR⟩ : ∃ R, trm (bn s) = R := ⟨_, rfl⟩
  rw [hR]
  have H0 : Hid (bE ((bn s).dropWhile bl) = R) := hR
  clear hR
  go_enter Tryd.func29, Tryd.ntmps29
  go_wp2_with fail
  go_loopw [0] (fun v0 wr => ∃ t : ByteArray, t.size ≤ 1000000 ∧ v0 = .string t ∧ Hid (bE ((bn t).dropWhile bl) = R) ∧ wr = w) (fun v0 _ => match v0 with | .string t => t.size | _ => 0)
  case atStart => exact ⟨s, hs, rfl, H0, rfl⟩
  case round =>
    obtain ⟨t, ht, rfl, HR, rfl⟩ := hrel
    go_upto_region 1 with fail
    obtain ⟨b, hb⟩ : ∃ b, (decide (0 < t.size) && bl ((bn t)[0]?.getD 0)) = b := ⟨_, rfl⟩
    have HV := hid hb
    clear hb
    go_cut [14] from 3 to 16 (fun v14 wc => v14 = .bool b ∧ wc = wr)
    case first =>
      by_cases h0 : 0 < t.size
      · have hg := (bn_get t 0 h0).symm
        have HB := hid (HBL.out ((bn t)[0]?.getD 0))
        obtain ⟨y, hy⟩ : ∃ y, (bn t)[0]?.getD 0 = y := ⟨_, rfl⟩
        have HY := hid hy
        rw [hy] at hg HB
        have hne := isEmpty_false t h0
        have HD : Hid (decide (0 < t.size) = true) := decide_eq_true h0
        clear hy HBL HD1 HEX HR H0
        by_cases h32 : y = 32
        · have HE : Hid (bl y = true) := by show _ = _; rw [HB.out]; simp [h32]
          clear HB
          go_wp2
          go_meet
          case rel => exact ⟨by rw [← HV.out, HY.out, HE.out, HD.out]; first | rfl | (rw [Bool.true_and]), rfl⟩
        · have b1 : (y == 32) = false := by simpa using h32
          have HE : Hid (bl y = (y == 9)) := by show _ = _; rw [HB.out, decide_eq_false h32, Bool.false_or]; rfl
          clear HB
          go_wp2
          go_meet
          case rel => exact ⟨by rw [← HV.out, HY.out, HE.out, HD.out]; first | rfl | (rw [Bool.true_and]), rfl⟩
      · have hne := isEmpty_true t (by omega)
        have HD : Hid (decide (0 < t.size) = false) := decide_eq_false h0
        clear HBL HD1 HEX HR H0
        go_wp2
        go_meet
        case rel => exact ⟨by rw [← HV.out, HD.out]; rfl, rfl⟩
    case rest =>
      obtain ⟨rfl, rfl⟩ := hcut
      have hv := HV.out
      clear HV
      cases b
      · have h : ¬ (0 < t.size ∧ bl ((bn t)[0]?.getD 0) = true) := by simpa using hv
        have HR2 : Hid (bE (bn t) = R) := by
          show _ = _
          rw [← HR.out]
          by_cases h0 : 0 < t.size
          · rw [HD1.out t h0, if_neg (fun hb => h ⟨h0, hb⟩)]
          · have e : bn t = [] := List.eq_nil_of_length_eq_zero (by rw [bn_length]; omega)
            rw [e]; rfl
        clear h hv HD1 HEX HR H0
        go_wp2_with fail
        go_loopw [0] (fun v0 wr => ∃ t : ByteArray, t.size ≤ 1000000 ∧ v0 = .string t ∧ Hid (bE (bn t) = R) ∧ wr = wc) (fun v0 _ => match v0 with | .string t => t.size | _ => 0)
        case atStart => exact ⟨t, ht, rfl, HR2, rfl⟩
        case round =>
          clear HR2
          obtain ⟨t, ht, rfl, HR, rfl⟩ := hrel
          go_upto_region 3 with fail
          obtain ⟨b, hb⟩ : ∃ b, (decide (0 < t.size) && bl ((bn t)[t.size - 1]?.getD 0)) = b := ⟨_, rfl⟩
          have HV := hid hb
          clear hb
          go_cut [34] from 17 to 39 (fun v34 wc => v34 = .bool b ∧ wc = wr)
          case first =>
            by_cases h0 : 0 < t.size
            · obtain ⟨m, hm⟩ : ∃ m, t.size = m + 1 := ⟨t.size - 1, by omega⟩
              have hml : m < t.size := by omega
              have hg := (bn_get t m hml).symm
              have HB := hid (HBL.out ((bn t)[m]?.getD 0))
              obtain ⟨y, hy⟩ : ∃ y, (bn t)[m]?.getD 0 = y := ⟨_, rfl⟩
              have HY : Hid ((bn t)[t.size - 1]?.getD 0 = y) := by show _ = _; rw [← hy, hm]; rfl
              rw [hy] at hg HB
              have hne := isEmpty_false t h0
              have HD : Hid (decide (0 < t.size) = true) := decide_eq_true h0
              clear hy HBL HR
              by_cases h32 : y = 32
              · have HE : Hid (bl y = true) := by show _ = _; rw [HB.out]; simp [h32]
                clear HB
                go_wp2
                go_meet
                case rel => exact ⟨by rw [← HV.out, HY.out, HE.out, HD.out]; first | rfl | (rw [Bool.true_and]), rfl⟩
              · have b1 : (y == 32) = false := by simpa using h32
                have HE : Hid (bl y = (y == 9)) := by show _ = _; rw [HB.out, decide_eq_false h32, Bool.false_or]; rfl
                clear HB
                go_wp2
                go_meet
                case rel => exact ⟨by rw [← HV.out, HY.out, HE.out, HD.out]; first | rfl | (rw [Bool.true_and]), rfl⟩
            · have hne := isEmpty_true t (by omega)
              have HD : Hid (decide (0 < t.size) = false) := decide_eq_false h0
              clear HBL HR
              go_wp2
              go_meet
              case rel => exact ⟨by rw [← HV.out, HD.out]; rfl, rfl⟩
          case rest =>
            obtain ⟨rfl, rfl⟩ := hcut
            have hv := HV.out
            clear HV
            cases b
            · have h : ¬ (0 < t.size ∧ bl ((bn t)[t.size - 1]?.getD 0) = true) := by simpa using hv
              have HR2 : Hid (bn t = R) := by
                show _ = _
                rw [← HR.out]
                by_cases h0 : 0 < t.size
                · rw [bE_last t (t.size - 1) (by omega), if_neg (fun hb => h ⟨h0, hb⟩)]
                · have e : bn t = [] := List.eq_nil_of_length_eq_zero (by rw [bn_length]; omega)
                  rw [e]; rfl
              clear h hv HBL HR
              go_wp2
              go_ret
              exact ⟨⟨t, HR2.out, rfl⟩, by first | rfl | trivial⟩
            · have h : 0 < t.size ∧ bl ((bn t)[t.size - 1]?.getD 0) = true := by simpa using hv
              obtain ⟨m, hm⟩ : ∃ m, t.size = m + 1 := ⟨t.size - 1, by omega⟩
              have HR2 : Hid (bE (bn (t.extract 0 m)) = R) := by
                show _ = _
                rw [← HR.out, bE_last t m hm, if_pos (by have := h.2; rw [hm] at this; exact this)]
              clear h hv HBL HR
              go_wp2
              go_roundw
              case rel => exact ⟨t.extract 0 m, by simp; omega, by first | rfl | trivial, HR2, by first | rfl | trivial⟩
              case measure => simp; omega
      · have HX := HEX.out t 1
        have h : 0 < t.size ∧ bl ((bn t)[0]?.getD 0) = true := by simpa using hv
        have HR2 : Hid (bE ((bn (t.extract 1 t.size)).dropWhile bl) = R) := by
          show _ = _
          rw [HX, ← HR.out, HD1.out t h.1, if_pos h.2]
        have hz : 0 < t.size := h.1
        clear h hv HX HBL HD1 HEX HR H0
        go_wp2
        go_roundw
        case rel => exact ⟨t.extract 1 t.size, by simp; omega, rfl, HR2, by first | rfl | trivial⟩
        case measure => simp; omega
end Go.Proofs.YtacbfbhhhofifaaDoor.Hd
