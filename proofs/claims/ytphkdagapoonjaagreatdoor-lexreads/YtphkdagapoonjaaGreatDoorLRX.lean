/- The document's Lex. (Stage 15.) (By mk_lrx.py.) -/
import Derived.Test.YtphkdagapoonjaaGreatDoorLRG
import Derived.Test.YtphkdagapoonjaaGreatDoorLRV
import Derived.Test.YtphkdagapoonjaaGreatDoorZLPT
namespace Go.Proofs.YtphkdagapoonjaaGreatDoor.Lx
open Go.RowKit
open Go.Proofs.YtphkdagapoonjaaGreatDoor.F (bn bn_length bn_append bn_inj bn_get byte_bd hid bn_extract isEmpty_false isEmpty_true str_eq same_eq)
open Go.Proofs.YtphkdagapoonjaaGreatDoor.U (nx enc encs scal Bytes)
set_option linter.unusedVariables false

theorem getLast_at {l : List Int} {b i : Nat} {y : Int} (h1 : b < i) (h2 : i ≤ l.length) (hy : l[i - 1]?.getD 0 = y) : ((l.drop b).take (i - b)).getLast? = some y := by
  rw [List.getLast?_eq_getElem?, List.length_take, List.length_drop, show min (i - b) (l.length - b) - 1 = i - 1 - b by omega, List.getElem?_take_of_lt (by omega), List.getElem?_drop, show b + (i - 1 - b) = i - 1 by omega, List.getElem?_eq_getElem (by omega)]
  rw [List.getElem?_eq_getElem (by omega)] at hy
  exact congrArg some hy
set_option maxRecDepth 100000 in
set_option maxHeartbeats 8000000 in
theorem rlex_long (s : ByteArray) (hs : 65536 < s.size) (w : World) : Calls Tryz.prog 7 #[.string s] w fun e W' => LnR ([], 4, 0, 0) w.heap.size e W' ∧ Below w.heap.size w W' := by
  have h1 : (65536 : Int) < (s.size : Int) := by omega
  have R0 : Hid ((w.alloc (.cells (fcs 0 0 0) 26)).heap[w.heap.size]? = some (.cells (fcs 0 0 0) 26 (0, 0))) := box_at w _ _
  have HB : Hid (Below w.heap.size w (w.alloc (.cells (fcs 0 0 0) 26))) := (Below.refl _ w).alloc (Nat.le_refl _) _
  go_enter Tryz.func7, Tryz.ntmps7
  go_wp2_with (refine wpList_store_row rfl 26 (.tmp 3) _ rfl w.heap.size (fcs 4 0 0) rfl rfl 26 (fcs 0 0 0) R0.out (finfo ..) rfl (fone ..) ?_)
  exact bodyPost_ret (results_tmp_row Tryz.results7 _ _ w.heap.size 26 (fcs 4 0 0) (0, 0) _ rfl (setRow_heap _ _ _ _ _ (0, 0) R0.out) Tryz.underlying26 (finfo ..)) rfl ⟨LnR.no rfl _ _, below_row HB.out (Nat.le_refl _) _⟩
set_option maxRecDepth 100000 in
set_option maxHeartbeats 8000000 in
theorem rlex_short (s : ByteArray) (hs : s.size ≤ 65536) (w : World) : Calls Tryz.prog 7 #[.string s] w fun e W' => LnR (lexP (rows (bn s) 1) []) w.heap.size e W' ∧ Below w.heap.size w W' := by
  have hgt : ¬ (65536 : Int) < (s.size : Int) := by omega
  obtain ⟨V, hV⟩ : ∃ V, w.alloc (.cells #[.int .i64 0, .int .i64 0, .int .i64 0] 26) = V := ⟨_, rfl⟩
  have R0 : Hid (V.heap[w.heap.size]? = some (.cells (fcs 0 0 0) 26 (0, 0))) := by show _ = _; rw [← hV]; exact box_at w _ _
  have HB : Hid (Below w.heap.size w V) := by show Below _ _ _; rw [← hV]; exact (Below.refl _ w).alloc (Nat.le_refl _) _
  have HLN : Hid (∀ (T : ByteArray) (hT : T.size ≤ 1000000) (k : Nat) (hk : k ≤ 1000000000) (W : World), Calls Tryz.prog 18 #[.string T, .int .i64 (k : Int)] W fun e W' => LnR (line (bn T) k) W.heap.size e W' ∧ Below W.heap.size W W') := fun T hT k hk W => rline_any T hT k hk W
  have HGT := hid (bn_get s)
  have HBY := hid (fun j (h : j < s.size) => byte_bd (s := s) h)
  have HCA : Hid (∀ b i, b ≤ i → i < s.size → (∀ j, b ≤ j → j < i → (bn s)[j]?.getD 0 ≠ 10) → (bn s)[i]?.getD 0 = 10 → fl ((bn s).drop b) = strip (bn (s.extract b i)) ∧ (((bn s).drop b).dropWhile no10).drop 1 = (bn s).drop (i + 1) ∧ (bn s).drop b ≠ []) := fun b i h1 h2 h3 h4 => by
    rw [bn_cut]; exact cut_at h1 (by rw [bn_length]; exact h2) h3 h4
  have HCE : Hid (∀ b i, b < s.size → i = s.size → (∀ j, b ≤ j → j < i → (bn s)[j]?.getD 0 ≠ 10) → fl ((bn s).drop b) = bn (s.extract b i) ∧ (((bn s).drop b).dropWhile no10).drop 1 = (bn s).drop (i + 1) ∧ (bn s).drop b ≠ []) := fun b i h1 h2 h3 => by
    subst h2
    rw [bn_extract]
    have h := cut_end (l := bn s) (b := b) (by rw [bn_length]; exact h1) (fun j a c => h3 j a (by rw [bn_length] at c; exact c))
    rw [bn_length] at h
    exact h
  obtain ⟨R, hR⟩ : ∃ R, lexP (rows (bn s) 1) [] = R := ⟨_, rfl⟩
  rw [hR]
  have H0 : Hid (lexP (rows ((bn s).drop 0) 1) (([] : List Tb).map Tb.tk) = R) := hR
  clear hR
  go_enter Tryz.func7, Tryz.ntmps7
  go_wp2_with fail
  clear hV
  go_loopw [4, 5, 6, 7] (fun vo vn vb vi wr => ∃ (i b k : Nat) (o : List Tb), i ≤ s.size + 1 ∧ b ≤ i ∧ 1 ≤ k ∧ k ≤ b + 1 ∧ o.length ≤ b ∧ vn = .int .i64 (k : Int) ∧ vb = .int .i64 (b : Int) ∧ vi = .int .i64 (i : Int) ∧ Hid (i = s.size + 1 → s.size ≤ b) ∧ Hid (∀ j, b ≤ j → j < i → (bn s)[j]?.getD 0 ≠ 10) ∧ Hid (TokOwn wr V.heap.size vo o) ∧ Hid (lexP (rows ((bn s).drop b) k) (o.map Tb.tk) = R) ∧ Hid (∀ t ∈ o, 0 ≤ t.n ∧ 0 ≤ t.a) ∧ Hid (Below V.heap.size V wr)) (fun _ _ _ vi _ => s.size + 1 - (intOf vi).toNat)
  case atStart => exact ⟨0, 0, 1, [], by omega, by omega, by omega, by omega, by simp, rfl, rfl, rfl, fun h => by omega, fun j h1 h2 => by omega, TokOwn.nil _ _, H0.out, fun t ht => (by cases ht), Below.refl _ _⟩
  case round =>
    obtain ⟨i, b, k, o, hi, hb, hk1, hk, hol, rfl, rfl, rfl, HEI, HNO, HO, HR, HP, HW⟩ := hrel
    obtain ⟨oa, oc, hv⟩ := HO.out.form
    subst hv
    have zw := HW.out.size
    clear H0
    by_cases hlt : i ≤ s.size
    rotate_left
    · have hltz : ¬ (i : Int) ≤ (s.size : Int) := by omega
      have HF : Hid (R = (o.map Tb.tk, 0, 0, 0)) := by
        show _ = _
        rw [← HR.out, List.drop_eq_nil_of_le (by rw [bn_length]; exact HEI.out (by omega)), rows_nil]; rfl
      have R1 := hid (kept R0.out HW.out)
      have hgv : w.heap.size < V.heap.size := (Array.getElem?_eq_some_iff.1 R0.out).1
      have HBW := hid (HB.out.trans (HW.out.mono HB.out.size))
      clear HEI HNO HR HLN HGT HBY HCA HCE
      go_wp2_with (refine wpList_store_row rfl 26 (.tmp 3) _ rfl w.heap.size (fcs 0 0 0) rfl rfl 26 (fcs 0 0 0) R1.out (finfo ..) rfl (fone ..) ?_)
      exact bodyPost_ret (results_tmp_row Tryz.results7 _ _ w.heap.size 26 (fcs 0 0 0) (0, 0) _ rfl (setRow_heap _ _ _ _ _ (0, 0) R1.out) Tryz.underlying26 (finfo ..)) rfl ⟨⟨_, o, HO.out.other (by omega) (fun g hg => setRow_other _ _ _ _ (by omega)), by rw [HF.out], HP.out, by rw [HF.out]; rfl⟩, below_row HBW.out (Nat.le_refl _) _⟩
    have hltz : (i : Int) ≤ (s.size : Int) := by omega
    by_cases hin : i < s.size
    · have hin1 : (i : Int) < (s.size : Int) := by omega
      have gy := (HGT.out i hin).symm
      obtain ⟨z0, z1⟩ := HBY.out i hin
      obtain ⟨y, hy⟩ : ∃ y, (bn s)[i]?.getD 0 = y := ⟨_, rfl⟩
      rw [hy] at gy z0 z1
      by_cases h10 : y = 10
      rotate_left
      · have q10 : (y != 10) = true := by simpa using h10
        have HN2 : Hid (∀ j, b ≤ j → j < i + 1 → (bn s)[j]?.getD 0 ≠ 10) := fun j h1 h2 => by
          by_cases hj : j = i
          · rw [hj, hy]; exact h10
          · exact HNO.out j h1 (by omega)
        clear HNO hy h10 HLN HGT HBY HCA HCE HEI R0 HB
        go_wp2
        go_roundw
        case rel => exact ⟨i + 1, b, k, o, by omega, by omega, hk1, hk, hol, rfl, rfl, by go_num, fun h => by omega, HN2.out, HO.out, HR.out, HP.out, HW.out⟩
        case measure => simp [intOf]; omega
      have q10 : (y != 10) = false := by rw [h10]; rfl
      obtain ⟨d1, d2, d3⟩ := HCA.out b i hb hin HNO.out (hy.trans h10)
      obtain ⟨T0, hT0⟩ : ∃ T, s.extract b i = T := ⟨_, rfl⟩
      rw [hT0] at d1
      have hsz : T0.size ≤ i - b := by rw [← hT0]; simp; omega
      have HLP := hid (lexP_cut d3 d2 k (o.map Tb.tk))
      by_cases hpos : 0 < T0.size
      · have hemp := isEmpty_false T0 hpos
        obtain ⟨q, hq⟩ : ∃ q, T0.size = q + 1 := ⟨T0.size - 1, by omega⟩
        have hql : q < T0.size := by omega
        have gz := (bn_get T0 q hql).symm
        obtain ⟨x0, x1⟩ := byte_bd (s := T0) hql
        obtain ⟨z, hz⟩ : ∃ z, (bn T0)[q]?.getD 0 = z := ⟨_, rfl⟩
        rw [hz] at gz x0 x1
        have hlast : (bn T0).getLast? = some z := by
          rw [List.getLast?_eq_getElem?, bn_length, hq, Nat.add_sub_cancel, List.getElem?_eq_getElem (by rw [bn_length]; omega)]
          rw [List.getElem?_eq_getElem (by rw [bn_length]; omega)] at hz
          exact congrArg some hz
        by_cases h13 : z = 13
        · have q13 : (z == 13) = true := by simpa using h13
          obtain ⟨T1, hT1⟩ : ∃ T, T0.extract 0 q = T := ⟨_, rfl⟩
          have HT : Hid (fl ((bn s).drop b) = bn T1) := by
            show _ = _
            rw [d1, strip_13 (hlast.trans (by rw [h13])), ← hT1, bn_cut, List.drop_zero, bn_length, hq]; rfl
          have hs1 : T1.size ≤ i - b := by rw [← hT1]; simp; omega
          rw [HT.out] at HLP
          clear d1 d2 d3 hy h10 h13 HT hlast hz
          go_wp2_with fail
          clear hT0 hT1 hq hemp gz
          refine (HLN.out T1 (by omega) k (by omega) wr).mono ?_
          rintro e w5 ⟨⟨vl, ts, hown, hts, hnn, rfl⟩, B⟩
          have hlen : ts.length ≤ T1.size + 1 := by
            have h := congrArg List.length hts
            rw [List.length_map] at h
            have h2 := line_size (bn T1) k
            rw [bn_length] at h2
            omega
          obtain ⟨⟨r, e0, e1, e2⟩, hX⟩ : ∃ X, line (bn T1) k = X := ⟨_, rfl⟩
          have HLNE := HLP
          rw [hX] at HLNE hts
          simp only [hX]
          simp only at hts HLNE
          clear hX HLP
          obtain ⟨a2, c2, rfl⟩ := hown.form
          have HTO := hid hown.at
          have HNN := hid hnn
          have B5 := hid (HW.out.trans (B.mono HW.out.size))
          have HO5 := hid (HO.out.below B)
          clear B hown hnn
          have HF5 : Hid (Below V.heap.size V (w5.alloc (.cells (fcs e0 e1 e2) 26))) := B5.out.alloc B5.out.size _
          have HG5 : Hid (Below w5.heap.size w5 (w5.alloc (.cells (fcs e0 e1 e2) 26))) := (Below.refl _ _).alloc (Nat.le_refl _) _
          have RF : Hid ((w5.alloc (.cells (fcs e0 e1 e2) 26)).heap[w5.heap.size]? = some (.cells (fcs e0 e1 e2) 26 (0, 0))) := box_at w5 _ _
          have hc0 : (w5.alloc (.cells (fcs e0 e1 e2) 26)).cell? ⟨w5.heap.size, 0, none⟩ = some (.int .i64 e0) := World.cell?_alloc_new w5 _ _ 0
          have R5 := hid (kept R0.out HF5.out)
          have HB5 := hid (HB.out.trans (HF5.out.mono HB.out.size))
          by_cases he : e0 = 0
          rotate_left
          · have q0 : (((e0 : Nat) : Int) != 0) = true := by simp; omega
            have HQ : Hid (R = ([], e0, e1, e2)) := by
              have h := HLNE.out
              rw [HR.out, if_pos he] at h
              exact h
            have HS5 : Hid (w.heap.size < V.heap.size) := (Array.getElem?_eq_some_iff.1 R0.out).1
            obtain ⟨v0, v1, v2⟩ := Fb.cells (show Fb (w5.alloc (.cells (fcs e0 e1 e2) 26)) w5.heap.size e0 e1 e2 from RF.out)
            obtain ⟨u0, u1, u2⟩ := Fb.cells (show Fb (w5.alloc (.cells (fcs e0 e1 e2) 26)) w.heap.size 0 0 0 from R5.out)
            have b0 : (w5.alloc (.cells (fcs e0 e1 e2) 26)).frozen? ⟨w.heap.size, 0, none⟩ = false := Lib.frozen_of_heap R5.out 0
            have b1 : (w5.alloc (.cells (fcs e0 e1 e2) 26)).frozen? ⟨w.heap.size, 1, none⟩ = false := Lib.frozen_of_heap R5.out 1
            have b2 : (w5.alloc (.cells (fcs e0 e1 e2) 26)).frozen? ⟨w.heap.size, 2, none⟩ = false := Lib.frozen_of_heap R5.out 2
            obtain ⟨t1, _, t3⟩ := three (show Fb (w5.alloc (.cells (fcs e0 e1 e2) 26)) w.heap.size 0 0 0 from R5.out) e0 e1 e2
            have T1 := hid t1
            have T3 := hid (t3 w.heap.size w (Nat.le_refl _) HB5.out)
            clear HLNE HTO HNN HO5 HO HW HLN HCA HCE HNO HP HR t1 t3 B5 HF5 HG5 RF R5 HB5 HEI HGT HBY
            go_wp2
            go_region
            all_goals (
              go_wp2
              exact bodyPost_ret (results_tmp_row Tryz.results7 _ _ w.heap.size 26 (fcs e0 e1 e2) (0, 0) _ rfl (by exact T1.out) Tryz.underlying26 (finfo ..)) rfl ⟨LnR.no HQ.out _ _, T3.out.drew⟩)
          · have q0 : (((e0 : Nat) : Int) != 0) = false := by simp; omega
            have HQ : Hid (lexP (rows ((bn s).drop (i + 1)) (k + 1)) ((o ++ ts).map Tb.tk) = R) := by
              show _ = _
              have h := HLNE.out
              rw [HR.out, if_neg (fun h => h he), ← hts] at h
              rw [List.map_append, ← h]
            subst he
            have HF6 : Hid (Below V.heap.size V (w5.alloc (.cells (fcs 0 e1 e2) 26))) := HF5
            have HOA : Hid (TokOwn (w5.alloc (.cells (fcs 0 e1 e2) 26)) V.heap.size (.slice oa o.length oc) o) := HO5.out.alloc _
            have HTA : Hid (TokAt (w5.alloc (.cells (fcs 0 e1 e2) 26)) (.slice a2 ts.length c2) ts) := HTO.out.below HG5.out
            have hc1 : (w5.alloc (.cells (fcs 0 e1 e2) 26)).cell? ⟨w5.heap.size, 0, none⟩ = some (.int .i64 0) := hc0
            clear hc0 q0 HF5 HG5
            clear HLNE HTO HO5 HO HW HLN HCA HCE HNO HR RF R5 HB5 HEI HGT HBY
            have hle2 : o.length + ts.length ≤ i + 1 := by omega
            have hle3 : o.length + ts.length ≤ 1000000000 := by omega
            have hsz5 : V.heap.size ≤ (w5.alloc (.cells (fcs 0 e1 e2) 26)).heap.size := HF6.out.size
            go_wp2_with (at_builtin; refine wpList_append_toks rfl _ _ rfl V.heap.size _ o rfl HOA.out _ ts rfl HTA.out hle3 hsz5 ?_; intro v' w' r' g'; have HR2 := hid r'; have HB2 := hid (below_grow HF6.out hsz5 HOA.out g'); clear r' g')
            go_roundw
            case rel => exact ⟨i + 1, i + 1, k + 1, o ++ ts, by omega, by omega, by omega, by omega, by rw [List.length_append]; exact hle2, by go_num, by go_num, by go_num, fun _ => by omega, fun j h1 h2 => by omega, HR2.out, HQ.out, fun t ht => (List.mem_append.1 ht).elim (HP.out t) (HNN.out t), HB2.out⟩
            case measure => simp [intOf]; omega
        · have q13 : (z == 13) = false := by simpa using h13
          have HT : Hid (fl ((bn s).drop b) = bn T0) := by
            show _ = _
            rw [d1, strip_no (by rw [hlast]; simpa using h13)]
          rw [HT.out] at HLP
          clear d1 d2 d3 hy h10 h13 HT hlast hz
          go_wp2_with fail
          clear hT0 hq hemp gz
          refine (HLN.out T0 (by omega) k (by omega) wr).mono ?_
          rintro e w5 ⟨⟨vl, ts, hown, hts, hnn, rfl⟩, B⟩
          have hlen : ts.length ≤ T0.size + 1 := by
            have h := congrArg List.length hts
            rw [List.length_map] at h
            have h2 := line_size (bn T0) k
            rw [bn_length] at h2
            omega
          obtain ⟨⟨r, e0, e1, e2⟩, hX⟩ : ∃ X, line (bn T0) k = X := ⟨_, rfl⟩
          have HLNE := HLP
          rw [hX] at HLNE hts
          simp only [hX]
          simp only at hts HLNE
          clear hX HLP
          obtain ⟨a2, c2, rfl⟩ := hown.form
          have HTO := hid hown.at
          have HNN := hid hnn
          have B5 := hid (HW.out.trans (B.mono HW.out.size))
          have HO5 := hid (HO.out.below B)
          clear B hown hnn
          have HF5 : Hid (Below V.heap.size V (w5.alloc (.cells (fcs e0 e1 e2) 26))) := B5.out.alloc B5.out.size _
          have HG5 : Hid (Below w5.heap.size w5 (w5.alloc (.cells (fcs e0 e1 e2) 26))) := (Below.refl _ _).alloc (Nat.le_refl _) _
          have RF : Hid ((w5.alloc (.cells (fcs e0 e1 e2) 26)).heap[w5.heap.size]? = some (.cells (fcs e0 e1 e2) 26 (0, 0))) := box_at w5 _ _
          have hc0 : (w5.alloc (.cells (fcs e0 e1 e2) 26)).cell? ⟨w5.heap.size, 0, none⟩ = some (.int .i64 e0) := World.cell?_alloc_new w5 _ _ 0
          have R5 := hid (kept R0.out HF5.out)
          have HB5 := hid (HB.out.trans (HF5.out.mono HB.out.size))
          by_cases he : e0 = 0
          rotate_left
          · have q0 : (((e0 : Nat) : Int) != 0) = true := by simp; omega
            have HQ : Hid (R = ([], e0, e1, e2)) := by
              have h := HLNE.out
              rw [HR.out, if_pos he] at h
              exact h
            have HS5 : Hid (w.heap.size < V.heap.size) := (Array.getElem?_eq_some_iff.1 R0.out).1
            obtain ⟨v0, v1, v2⟩ := Fb.cells (show Fb (w5.alloc (.cells (fcs e0 e1 e2) 26)) w5.heap.size e0 e1 e2 from RF.out)
            obtain ⟨u0, u1, u2⟩ := Fb.cells (show Fb (w5.alloc (.cells (fcs e0 e1 e2) 26)) w.heap.size 0 0 0 from R5.out)
            have b0 : (w5.alloc (.cells (fcs e0 e1 e2) 26)).frozen? ⟨w.heap.size, 0, none⟩ = false := Lib.frozen_of_heap R5.out 0
            have b1 : (w5.alloc (.cells (fcs e0 e1 e2) 26)).frozen? ⟨w.heap.size, 1, none⟩ = false := Lib.frozen_of_heap R5.out 1
            have b2 : (w5.alloc (.cells (fcs e0 e1 e2) 26)).frozen? ⟨w.heap.size, 2, none⟩ = false := Lib.frozen_of_heap R5.out 2
            obtain ⟨t1, _, t3⟩ := three (show Fb (w5.alloc (.cells (fcs e0 e1 e2) 26)) w.heap.size 0 0 0 from R5.out) e0 e1 e2
            have T1 := hid t1
            have T3 := hid (t3 w.heap.size w (Nat.le_refl _) HB5.out)
            clear HLNE HTO HNN HO5 HO HW HLN HCA HCE HNO HP HR t1 t3 B5 HF5 HG5 RF R5 HB5 HEI HGT HBY
            go_wp2
            go_region
            all_goals (
              go_wp2
              exact bodyPost_ret (results_tmp_row Tryz.results7 _ _ w.heap.size 26 (fcs e0 e1 e2) (0, 0) _ rfl (by exact T1.out) Tryz.underlying26 (finfo ..)) rfl ⟨LnR.no HQ.out _ _, T3.out.drew⟩)
          · have q0 : (((e0 : Nat) : Int) != 0) = false := by simp; omega
            have HQ : Hid (lexP (rows ((bn s).drop (i + 1)) (k + 1)) ((o ++ ts).map Tb.tk) = R) := by
              show _ = _
              have h := HLNE.out
              rw [HR.out, if_neg (fun h => h he), ← hts] at h
              rw [List.map_append, ← h]
            subst he
            have HF6 : Hid (Below V.heap.size V (w5.alloc (.cells (fcs 0 e1 e2) 26))) := HF5
            have HOA : Hid (TokOwn (w5.alloc (.cells (fcs 0 e1 e2) 26)) V.heap.size (.slice oa o.length oc) o) := HO5.out.alloc _
            have HTA : Hid (TokAt (w5.alloc (.cells (fcs 0 e1 e2) 26)) (.slice a2 ts.length c2) ts) := HTO.out.below HG5.out
            have hc1 : (w5.alloc (.cells (fcs 0 e1 e2) 26)).cell? ⟨w5.heap.size, 0, none⟩ = some (.int .i64 0) := hc0
            clear hc0 q0 HF5 HG5
            clear HLNE HTO HO5 HO HW HLN HCA HCE HNO HR RF R5 HB5 HEI HGT HBY
            have hle2 : o.length + ts.length ≤ i + 1 := by omega
            have hle3 : o.length + ts.length ≤ 1000000000 := by omega
            have hsz5 : V.heap.size ≤ (w5.alloc (.cells (fcs 0 e1 e2) 26)).heap.size := HF6.out.size
            go_wp2_with (at_builtin; refine wpList_append_toks rfl _ _ rfl V.heap.size _ o rfl HOA.out _ ts rfl HTA.out hle3 hsz5 ?_; intro v' w' r' g'; have HR2 := hid r'; have HB2 := hid (below_grow HF6.out hsz5 HOA.out g'); clear r' g')
            go_roundw
            case rel => exact ⟨i + 1, i + 1, k + 1, o ++ ts, by omega, by omega, by omega, by omega, by rw [List.length_append]; exact hle2, by go_num, by go_num, by go_num, fun _ => by omega, fun j h1 h2 => by omega, HR2.out, HQ.out, fun t ht => (List.mem_append.1 ht).elim (HP.out t) (HNN.out t), HB2.out⟩
            case measure => simp [intOf]; omega
      · have hemp := isEmpty_true T0 (by omega)
        have HT : Hid (fl ((bn s).drop b) = bn T0) := by
          show _ = _
          rw [d1, strip_no (by rw [List.length_eq_zero_iff.1 (show (bn T0).length = 0 by rw [bn_length]; omega)]; simp)]
        rw [HT.out] at HLP
        clear d1 d2 d3 hy h10 HT
        go_wp2_with fail
        clear hT0 hemp
        refine (HLN.out T0 (by omega) k (by omega) wr).mono ?_
        rintro e w5 ⟨⟨vl, ts, hown, hts, hnn, rfl⟩, B⟩
        have hlen : ts.length ≤ T0.size + 1 := by
          have h := congrArg List.length hts
          rw [List.length_map] at h
          have h2 := line_size (bn T0) k
          rw [bn_length] at h2
          omega
        obtain ⟨⟨r, e0, e1, e2⟩, hX⟩ : ∃ X, line (bn T0) k = X := ⟨_, rfl⟩
        have HLNE := HLP
        rw [hX] at HLNE hts
        simp only [hX]
        simp only at hts HLNE
        clear hX HLP
        obtain ⟨a2, c2, rfl⟩ := hown.form
        have HTO := hid hown.at
        have HNN := hid hnn
        have B5 := hid (HW.out.trans (B.mono HW.out.size))
        have HO5 := hid (HO.out.below B)
        clear B hown hnn
        have HF5 : Hid (Below V.heap.size V (w5.alloc (.cells (fcs e0 e1 e2) 26))) := B5.out.alloc B5.out.size _
        have HG5 : Hid (Below w5.heap.size w5 (w5.alloc (.cells (fcs e0 e1 e2) 26))) := (Below.refl _ _).alloc (Nat.le_refl _) _
        have RF : Hid ((w5.alloc (.cells (fcs e0 e1 e2) 26)).heap[w5.heap.size]? = some (.cells (fcs e0 e1 e2) 26 (0, 0))) := box_at w5 _ _
        have hc0 : (w5.alloc (.cells (fcs e0 e1 e2) 26)).cell? ⟨w5.heap.size, 0, none⟩ = some (.int .i64 e0) := World.cell?_alloc_new w5 _ _ 0
        have R5 := hid (kept R0.out HF5.out)
        have HB5 := hid (HB.out.trans (HF5.out.mono HB.out.size))
        by_cases he : e0 = 0
        rotate_left
        · have q0 : (((e0 : Nat) : Int) != 0) = true := by simp; omega
          have HQ : Hid (R = ([], e0, e1, e2)) := by
            have h := HLNE.out
            rw [HR.out, if_pos he] at h
            exact h
          have HS5 : Hid (w.heap.size < V.heap.size) := (Array.getElem?_eq_some_iff.1 R0.out).1
          obtain ⟨v0, v1, v2⟩ := Fb.cells (show Fb (w5.alloc (.cells (fcs e0 e1 e2) 26)) w5.heap.size e0 e1 e2 from RF.out)
          obtain ⟨u0, u1, u2⟩ := Fb.cells (show Fb (w5.alloc (.cells (fcs e0 e1 e2) 26)) w.heap.size 0 0 0 from R5.out)
          have b0 : (w5.alloc (.cells (fcs e0 e1 e2) 26)).frozen? ⟨w.heap.size, 0, none⟩ = false := Lib.frozen_of_heap R5.out 0
          have b1 : (w5.alloc (.cells (fcs e0 e1 e2) 26)).frozen? ⟨w.heap.size, 1, none⟩ = false := Lib.frozen_of_heap R5.out 1
          have b2 : (w5.alloc (.cells (fcs e0 e1 e2) 26)).frozen? ⟨w.heap.size, 2, none⟩ = false := Lib.frozen_of_heap R5.out 2
          obtain ⟨t1, _, t3⟩ := three (show Fb (w5.alloc (.cells (fcs e0 e1 e2) 26)) w.heap.size 0 0 0 from R5.out) e0 e1 e2
          have T1 := hid t1
          have T3 := hid (t3 w.heap.size w (Nat.le_refl _) HB5.out)
          clear HLNE HTO HNN HO5 HO HW HLN HCA HCE HNO HP HR t1 t3 B5 HF5 HG5 RF R5 HB5 HEI HGT HBY
          go_wp2
          go_region
          all_goals (
            go_wp2
            exact bodyPost_ret (results_tmp_row Tryz.results7 _ _ w.heap.size 26 (fcs e0 e1 e2) (0, 0) _ rfl (by exact T1.out) Tryz.underlying26 (finfo ..)) rfl ⟨LnR.no HQ.out _ _, T3.out.drew⟩)
        · have q0 : (((e0 : Nat) : Int) != 0) = false := by simp; omega
          have HQ : Hid (lexP (rows ((bn s).drop (i + 1)) (k + 1)) ((o ++ ts).map Tb.tk) = R) := by
            show _ = _
            have h := HLNE.out
            rw [HR.out, if_neg (fun h => h he), ← hts] at h
            rw [List.map_append, ← h]
          subst he
          have HF6 : Hid (Below V.heap.size V (w5.alloc (.cells (fcs 0 e1 e2) 26))) := HF5
          have HOA : Hid (TokOwn (w5.alloc (.cells (fcs 0 e1 e2) 26)) V.heap.size (.slice oa o.length oc) o) := HO5.out.alloc _
          have HTA : Hid (TokAt (w5.alloc (.cells (fcs 0 e1 e2) 26)) (.slice a2 ts.length c2) ts) := HTO.out.below HG5.out
          have hc1 : (w5.alloc (.cells (fcs 0 e1 e2) 26)).cell? ⟨w5.heap.size, 0, none⟩ = some (.int .i64 0) := hc0
          clear hc0 q0 HF5 HG5
          clear HLNE HTO HO5 HO HW HLN HCA HCE HNO HR RF R5 HB5 HEI HGT HBY
          have hle2 : o.length + ts.length ≤ i + 1 := by omega
          have hle3 : o.length + ts.length ≤ 1000000000 := by omega
          have hsz5 : V.heap.size ≤ (w5.alloc (.cells (fcs 0 e1 e2) 26)).heap.size := HF6.out.size
          go_wp2_with (at_builtin; refine wpList_append_toks rfl _ _ rfl V.heap.size _ o rfl HOA.out _ ts rfl HTA.out hle3 hsz5 ?_; intro v' w' r' g'; have HR2 := hid r'; have HB2 := hid (below_grow HF6.out hsz5 HOA.out g'); clear r' g')
          go_roundw
          case rel => exact ⟨i + 1, i + 1, k + 1, o ++ ts, by omega, by omega, by omega, by omega, by rw [List.length_append]; exact hle2, by go_num, by go_num, by go_num, fun _ => by omega, fun j h1 h2 => by omega, HR2.out, HQ.out, fun t ht => (List.mem_append.1 ht).elim (HP.out t) (HNN.out t), HB2.out⟩
          case measure => simp [intOf]; omega
    · have hin1 : ¬ (i : Int) < (s.size : Int) := by omega
      have heq : ((i : Int) == (s.size : Int)) = true := by simp; omega
      by_cases hbs : b = s.size
      · have hb2 : ((b : Int) == (s.size : Int)) = true := by simp; omega
        have HN2 : Hid (∀ j, b ≤ j → j < i + 1 → (bn s)[j]?.getD 0 ≠ 10) := fun j h1 h2 => by
          rw [List.getElem?_eq_none (by rw [bn_length]; omega)]; decide
        have hbi : b ≤ i + 1 := by omega
        clear HNO HLN HGT HBY HCA HCE HEI R0 HB
        go_wp2
        go_roundw
        case rel => exact ⟨i + 1, b, k, o, by omega, hbi, hk1, hk, hol, rfl, rfl, by go_num, fun h => by omega, HN2.out, HO.out, HR.out, HP.out, HW.out⟩
        case measure => simp [intOf]; omega
      have hb2 : ((b : Int) == (s.size : Int)) = false := by simp; omega
      obtain ⟨d1, d2, d3⟩ := HCE.out b i (by omega) (by omega) HNO.out
      obtain ⟨T0, hT0⟩ : ∃ T, s.extract b i = T := ⟨_, rfl⟩
      rw [hT0] at d1
      have hsz : T0.size ≤ i - b := by rw [← hT0]; simp; omega
      have HLP := hid (lexP_cut d3 d2 k (o.map Tb.tk))
      rw [d1] at HLP
      have hbi : (b : Int) ≤ (i : Int) := by omega
      have his : (i : Int) ≤ (s.size : Int) := by omega
      clear d1 d2 d3 hbs
      go_wp2_with fail
      clear hT0
      refine (HLN.out T0 (by omega) k (by omega) wr).mono ?_
      rintro e w5 ⟨⟨vl, ts, hown, hts, hnn, rfl⟩, B⟩
      have hlen : ts.length ≤ T0.size + 1 := by
        have h := congrArg List.length hts
        rw [List.length_map] at h
        have h2 := line_size (bn T0) k
        rw [bn_length] at h2
        omega
      obtain ⟨⟨r, e0, e1, e2⟩, hX⟩ : ∃ X, line (bn T0) k = X := ⟨_, rfl⟩
      have HLNE := HLP
      rw [hX] at HLNE hts
      simp only [hX]
      simp only at hts HLNE
      clear hX HLP
      obtain ⟨a2, c2, rfl⟩ := hown.form
      have HTO := hid hown.at
      have HNN := hid hnn
      have B5 := hid (HW.out.trans (B.mono HW.out.size))
      have HO5 := hid (HO.out.below B)
      clear B hown hnn
      have HF5 : Hid (Below V.heap.size V (w5.alloc (.cells (fcs e0 e1 e2) 26))) := B5.out.alloc B5.out.size _
      have HG5 : Hid (Below w5.heap.size w5 (w5.alloc (.cells (fcs e0 e1 e2) 26))) := (Below.refl _ _).alloc (Nat.le_refl _) _
      have RF : Hid ((w5.alloc (.cells (fcs e0 e1 e2) 26)).heap[w5.heap.size]? = some (.cells (fcs e0 e1 e2) 26 (0, 0))) := box_at w5 _ _
      have hc0 : (w5.alloc (.cells (fcs e0 e1 e2) 26)).cell? ⟨w5.heap.size, 0, none⟩ = some (.int .i64 e0) := World.cell?_alloc_new w5 _ _ 0
      have R5 := hid (kept R0.out HF5.out)
      have HB5 := hid (HB.out.trans (HF5.out.mono HB.out.size))
      by_cases he : e0 = 0
      rotate_left
      · have q0 : (((e0 : Nat) : Int) != 0) = true := by simp; omega
        have HQ : Hid (R = ([], e0, e1, e2)) := by
          have h := HLNE.out
          rw [HR.out, if_pos he] at h
          exact h
        have HS5 : Hid (w.heap.size < V.heap.size) := (Array.getElem?_eq_some_iff.1 R0.out).1
        obtain ⟨v0, v1, v2⟩ := Fb.cells (show Fb (w5.alloc (.cells (fcs e0 e1 e2) 26)) w5.heap.size e0 e1 e2 from RF.out)
        obtain ⟨u0, u1, u2⟩ := Fb.cells (show Fb (w5.alloc (.cells (fcs e0 e1 e2) 26)) w.heap.size 0 0 0 from R5.out)
        have b0 : (w5.alloc (.cells (fcs e0 e1 e2) 26)).frozen? ⟨w.heap.size, 0, none⟩ = false := Lib.frozen_of_heap R5.out 0
        have b1 : (w5.alloc (.cells (fcs e0 e1 e2) 26)).frozen? ⟨w.heap.size, 1, none⟩ = false := Lib.frozen_of_heap R5.out 1
        have b2 : (w5.alloc (.cells (fcs e0 e1 e2) 26)).frozen? ⟨w.heap.size, 2, none⟩ = false := Lib.frozen_of_heap R5.out 2
        obtain ⟨t1, _, t3⟩ := three (show Fb (w5.alloc (.cells (fcs e0 e1 e2) 26)) w.heap.size 0 0 0 from R5.out) e0 e1 e2
        have T1 := hid t1
        have T3 := hid (t3 w.heap.size w (Nat.le_refl _) HB5.out)
        clear HLNE HTO HNN HO5 HO HW HLN HCA HCE HNO HP HR t1 t3 B5 HF5 HG5 RF R5 HB5 HEI HGT HBY
        go_wp2
        go_region
        all_goals (
          go_wp2
          exact bodyPost_ret (results_tmp_row Tryz.results7 _ _ w.heap.size 26 (fcs e0 e1 e2) (0, 0) _ rfl (by exact T1.out) Tryz.underlying26 (finfo ..)) rfl ⟨LnR.no HQ.out _ _, T3.out.drew⟩)
      · have q0 : (((e0 : Nat) : Int) != 0) = false := by simp; omega
        have HQ : Hid (lexP (rows ((bn s).drop (i + 1)) (k + 1)) ((o ++ ts).map Tb.tk) = R) := by
          show _ = _
          have h := HLNE.out
          rw [HR.out, if_neg (fun h => h he), ← hts] at h
          rw [List.map_append, ← h]
        subst he
        have HF6 : Hid (Below V.heap.size V (w5.alloc (.cells (fcs 0 e1 e2) 26))) := HF5
        have HOA : Hid (TokOwn (w5.alloc (.cells (fcs 0 e1 e2) 26)) V.heap.size (.slice oa o.length oc) o) := HO5.out.alloc _
        have HTA : Hid (TokAt (w5.alloc (.cells (fcs 0 e1 e2) 26)) (.slice a2 ts.length c2) ts) := HTO.out.below HG5.out
        have hc1 : (w5.alloc (.cells (fcs 0 e1 e2) 26)).cell? ⟨w5.heap.size, 0, none⟩ = some (.int .i64 0) := hc0
        clear hc0 q0 HF5 HG5
        clear HLNE HTO HO5 HO HW HLN HCA HCE HNO HR RF R5 HB5 HEI HGT HBY
        have hle2 : o.length + ts.length ≤ i + 1 := by omega
        have hle3 : o.length + ts.length ≤ 1000000000 := by omega
        have hsz5 : V.heap.size ≤ (w5.alloc (.cells (fcs 0 e1 e2) 26)).heap.size := HF6.out.size
        go_wp2_with (at_builtin; refine wpList_append_toks rfl _ _ rfl V.heap.size _ o rfl HOA.out _ ts rfl HTA.out hle3 hsz5 ?_; intro v' w' r' g'; have HR2 := hid r'; have HB2 := hid (below_grow HF6.out hsz5 HOA.out g'); clear r' g')
        go_roundw
        case rel => exact ⟨i + 1, i + 1, k + 1, o ++ ts, by omega, by omega, by omega, by omega, by rw [List.length_append]; exact hle2, by go_num, by go_num, by go_num, fun _ => by omega, fun j h1 h2 => by omega, HR2.out, HQ.out, fun t ht => (List.mem_append.1 ht).elim (HP.out t) (HNN.out t), HB2.out⟩
        case measure => simp [intOf]; omega
theorem rlex_any (s : ByteArray) (hs : s.size ≤ 1000000) (w : World) : Calls Tryz.prog 7 #[.string s] w fun e W' => LnR (lex (bn s)) w.heap.size e W' ∧ Below w.heap.size w W' := by
  have e1 : lex (bn s) = if 65536 < s.size then ([], 4, 0, 0) else lexP (rows (bn s) 1) [] := by
    unfold lex
    rw [bn_length]
    split
    · rfl
    · have h := lexF_P s.size (bn s) [] 1 (by rw [bn_length]; omega)
      rw [bn_length] at h
      exact h
  rw [e1]
  by_cases h : 65536 < s.size
  · rw [if_pos h]; exact rlex_long s h w
  · rw [if_neg h]; exact rlex_short s (by omega) w
end Go.Proofs.YtphkdagapoonjaaGreatDoor.Lx
