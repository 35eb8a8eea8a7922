/- The document's ends, digit, escape; The document's escape; The document's text: a text in quotes at the front. -/
import Derived.Test.YtphkdagapoonjaaGreatDoorZUZ
import Derived.Test.YtphkdagapoonjaaGreatDoorZLXH
namespace Go.Proofs.YtphkdagapoonjaaGreatDoor.Lx
open Go.RowKit
open Go.Proofs.YtphkdagapoonjaaGreatDoor.F (bn bn_length bn_append bn_inj bn_get byte_bd hid bn_extract isEmpty_false isEmpty_true str_eq same_eq)
open Go.Proofs.YtphkdagapoonjaaGreatDoor.U (nx enc encs scal Bytes)
set_option linter.unusedVariables false

set_option maxRecDepth 100000 in
set_option maxHeartbeats 4000000 in
theorem rends_any (c : Int) (h0 : 0 ≤ c) (h1 : c ≤ 255) (w : World) : Calls Tryz.prog 42 #[.int .u8 c] w fun e W' => e = .returned (.bool (en c)) ∧ W' = w := by
  have hc : c = 32 ∨ c = 9 ∨ c = 44 ∨ c = 33 ∨ c = 34 ∨ c = 35 ∨ (c ≠ 32 ∧ c ≠ 9 ∧ c ≠ 44 ∧ c ≠ 33 ∧ c ≠ 34 ∧ c ≠ 35) := by omega
  obtain ⟨b, hb⟩ : ∃ b, en c = b := ⟨_, rfl⟩
  rw [hb]
  have HB := hid hb
  clear hb
  rcases hc with rfl | rfl | rfl | rfl | rfl | rfl | ⟨a1, a2, a3, a4, a5, a6⟩
  iterate 6
    · have e : b = true := by rw [← HB.out]; decide
      subst e
      clear HB
      go_enter Tryz.func42, Tryz.ntmps42
      go_wp2
      go_ret
      exact ⟨rfl, rfl⟩
  have e : b = false := by rw [← HB.out]; unfold en; exact decide_eq_false (by omega)
  subst e
  have q1 : (c == 32) = false := by simpa using a1
  have q2 : (c == 9) = false := by simpa using a2
  have q3 : (c == 44) = false := by simpa using a3
  have q4 : (c == 33) = false := by simpa using a4
  have q5 : (c == 34) = false := by simpa using a5
  have q6 : (c == 35) = false := by simpa using a6
  clear HB a1 a2 a3 a4 a5 a6
  go_enter Tryz.func42, Tryz.ntmps42
  go_wp2
  go_ret
  exact ⟨rfl, rfl⟩
set_option maxRecDepth 100000 in
set_option maxHeartbeats 4000000 in
theorem rdigit_any (c : Int) (h0 : 0 ≤ c) (h1 : c ≤ 255) (w : World) : Calls Tryz.prog 76 #[.int .u8 c] w fun e W' => e = .returned (.int .i64 (dg c)) ∧ W' = w := by
  by_cases a1 : 48 ≤ c ∧ c ≤ 57
  · obtain ⟨x1, x2⟩ := a1
    go_enter Tryz.func76, Tryz.ntmps76
    go_wp2
    go_ret
    exact ⟨U.ret_int (by unfold dg; (repeat' split) <;> omega), rfl⟩
  by_cases a2 : 97 ≤ c ∧ c ≤ 102
  · obtain ⟨x1, x2⟩ := a2
    go_enter Tryz.func76, Tryz.ntmps76
    go_wp2
    go_ret
    exact ⟨U.ret_int (by unfold dg; (repeat' split) <;> omega), rfl⟩
  by_cases a3 : 65 ≤ c ∧ c ≤ 70
  · obtain ⟨x1, x2⟩ := a3
    go_enter Tryz.func76, Tryz.ntmps76
    go_wp2
    go_ret
    exact ⟨U.ret_int (by unfold dg; (repeat' split) <;> omega), rfl⟩
  have hm : dg c = -1 := by unfold dg; (repeat' split) <;> omega
  rw [hm]
  go_enter Tryz.func76, Tryz.ntmps76
  go_wp2
  all_goals first
    | (go_ret; exact ⟨rfl, rfl⟩)
    | (exfalso; omega)
/-! ### A backslash -/
theorem take_snoc {l : List Int} {j : Nat} (h : j < l.length) : l.take (j + 1) = l.take j ++ [l[j]?.getD 0] := by
  rw [List.take_add_one, List.getElem?_eq_getElem h]; rfl
theorem hv_snoc (l : List Int) (c : Int) : hv (l ++ [c]) = 16 * hv l + dg c := by unfold hv; rw [List.foldl_append]; rfl
theorem ds_of {l : List Int} {j : Nat} (hj : j ≤ 6) (hl : 3 + j ≤ l.length) (hd : ∀ k, k < j → isd (l[3 + k]?.getD 0) = true) (he : 3 + j = l.length ∨ j = 6 ∨ isd (l[3 + j]?.getD 0) = false) : ds l = (l.drop 3).take j := by
  unfold ds
  have key : ∀ (j m : Nat) (q : List Int), j ≤ m → j ≤ q.length → (∀ k, k < j → isd (q[k]?.getD 0) = true) → (j = q.length ∨ j = m ∨ isd (q[j]?.getD 0) = false) → (q.take m).takeWhile isd = q.take j := by
    intro j
    induction j with
    | zero =>
      intro m q hm hl hd he
      cases q with
      | nil => simp
      | cons c q =>
        cases m with
        | zero => simp
        | succ m =>
          rcases he with he | he | he
          · simp at he
          · omega
          · rw [List.take_succ_cons, List.takeWhile_cons_of_neg (by simpa using he)]; rfl
    | succ j ih =>
      intro m q hm hl hd he
      cases q with
      | nil => simp at hl
      | cons c q =>
        obtain ⟨m, rfl⟩ : ∃ k, m = k + 1 := ⟨m - 1, by omega⟩
        have h0 : isd c = true := hd 0 (by omega)
        rw [List.take_succ_cons, List.take_succ_cons, List.takeWhile_cons_of_pos h0, ih m q (by omega) (by simpa using hl) (fun k hk => hd (k + 1) (by omega)) (by
          rcases he with he | he | he
          · exact .inl (by simpa using he)
          · exact .inr (.inl (by omega))
          · exact .inr (.inr he))]
  refine key j 6 (l.drop 3) hj (by rw [List.length_drop]; omega) (fun k hk => ?_) ?_
  · rw [List.getElem?_drop]; exact hd k hk
  · rw [List.length_drop, List.getElem?_drop]
    rcases he with he | he | he
    · exact .inl (by omega)
    · exact .inr (.inl he)
    · exact .inr (.inr he)
theorem dg_bd {c : Int} : -1 ≤ dg c ∧ dg c ≤ 15 := by unfold dg; (repeat' split) <;> omega
theorem fold_bd : ∀ (l : List Int) (a : Int), (∀ c ∈ l, isd c = true) → 0 ≤ a → 0 ≤ l.foldl (fun n c => 16 * n + dg c) a ∧ l.foldl (fun n c => 16 * n + dg c) a < (a + 1) * 16 ^ l.length
  | [], a, _, h0 => by simp; omega
  | c :: l, a, h, h0 => by
    have h2 := h c (by simp)
    have h3 := dg_bd (c := c)
    have h4 : 0 ≤ dg c := by unfold isd at h2; simpa using h2
    obtain ⟨b1, b2⟩ := fold_bd l (16 * a + dg c) (fun d hd => h d (by simp [hd])) (by omega)
    refine ⟨b1, Int.lt_of_lt_of_le b2 ?_⟩
    rw [List.length_cons, Int.pow_succ]
    have hp : (0 : Int) ≤ 16 ^ l.length := Int.le_of_lt (Int.pow_pos (by decide))
    have : (16 * a + dg c + 1) * 16 ^ l.length ≤ (16 * (a + 1)) * 16 ^ l.length := Int.mul_le_mul_of_nonneg_right (by omega) hp
    calc (16 * a + dg c + 1) * 16 ^ l.length ≤ (16 * (a + 1)) * 16 ^ l.length := this
      _ = (a + 1) * (16 ^ l.length * 16) := by rw [Int.mul_comm 16 (a + 1), Int.mul_assoc, Int.mul_comm 16 (16 ^ l.length)]
theorem hv_bd {l : List Int} (h : ∀ c ∈ l, isd c = true) (hl : l.length ≤ 6) : 0 ≤ hv l ∧ hv l ≤ 16777215 := by
  obtain ⟨a, b⟩ := fold_bd l 0 h (Int.le_refl _)
  refine ⟨a, ?_⟩
  have : ((0 : Int) + 1) * 16 ^ l.length ≤ 16777216 := by
    have h6 : l.length = 0 ∨ l.length = 1 ∨ l.length = 2 ∨ l.length = 3 ∨ l.length = 4 ∨ l.length = 5 ∨ l.length = 6 := by omega
    rcases h6 with h | h | h | h | h | h | h <;> rw [h] <;> decide
  unfold hv
  omega
/-- What a text's escape answers. -/
def EscR (l : List Int) (e : Ending) : Prop := ∃ t : ByteArray, bn t = (es l).1 ∧ e = .returned (.tuple #[.string t, .int .i64 (es l).2])
theorem es_short {l : List Int} (h1 : ¬ (l.getD 1 0 = 34 ∨ l.getD 1 0 = 92)) (h : l.length < 5 ∨ l.getD 1 0 ≠ 117 ∨ l.getD 2 0 ≠ 123) : es l = ([], 0) := by
  unfold es
  rw [if_neg h1, if_neg]
  rintro ⟨a, b, c, d, _⟩
  have hp := List.length_pos_iff.2 c
  rcases h with h | h | h
  · rw [List.getD_eq_getElem?_getD, List.getElem?_eq_none (by omega)] at d
    simp at d
  · exact h a
  · exact h b
theorem es_long {l : List Int} {j : Nat} (h1 : ¬ (l.getD 1 0 = 34 ∨ l.getD 1 0 = 92)) (ha : l.getD 1 0 = 117) (hb : l.getD 2 0 = 123) (hd : ds l = (l.drop 3).take j) (hj : (ds l).length = j) :
    es l = if j ≠ 0 ∧ l.getD (3 + j) 0 = 125 ∧ scal (hv (ds l)) = true then (enc (hv (ds l)), j + 4) else ([], 0) := by
  unfold es
  rw [if_neg h1, hj]
  have e : ds l ≠ [] ↔ j ≠ 0 := by rw [← hj]; exact ⟨fun h h0 => h (List.length_eq_zero_iff.1 h0), fun h h0 => h (by rw [h0]; rfl)⟩
  by_cases hc : j ≠ 0 ∧ l.getD (3 + j) 0 = 125 ∧ scal (hv (ds l)) = true
  · rw [if_pos hc, if_pos ⟨ha, hb, e.2 hc.1, hc.2⟩]
  · rw [if_neg hc, if_neg (fun h => hc ⟨e.1 h.2.2.1, h.2.2.2⟩)]
theorem getD_at (l : List Int) (k : Nat) : l.getD k 0 = l[k]?.getD 0 := List.getD_eq_getElem?_getD
end Go.Proofs.YtphkdagapoonjaaGreatDoor.Lx
namespace Go.Proofs.YtphkdagapoonjaaGreatDoor.Lx
open Go.RowKit
open Go.Proofs.YtphkdagapoonjaaGreatDoor.F (bn bn_length bn_append bn_inj bn_get byte_bd hid bn_extract isEmpty_false isEmpty_true str_eq same_eq)
open Go.Proofs.YtphkdagapoonjaaGreatDoor.U (nx enc encs scal Bytes)
set_option linter.unusedVariables false

theorem bn_cut (s : ByteArray) (i j : Nat) : bn (s.extract i j) = ((bn s).drop i).take (j - i) := by
  unfold bn
  have e : (s.extract i j).data.toList = (s.data.toList.drop i).take (j - i) := by
    rw [ByteArray.data_extract, Array.toList_extract]
  rw [e, List.map_take, List.map_drop]
theorem bn_one (s : ByteArray) (i : Nat) (h : i < s.size) : bn (s.extract i (i + 1)) = [(bn s)[i]?.getD 0] := by
  rw [bn_cut, show i + 1 - i = 0 + 1 by omega, take_snoc (by rw [List.length_drop, bn_length]; omega), List.getElem?_drop]; rfl
set_option maxRecDepth 100000 in
set_option maxHeartbeats 8000000 in
theorem rescape_any (s : ByteArray) (hs : s.size ≤ 1000000) (w : World) : Calls Tryz.prog 55 #[.string s] w fun e W' => EscR (bn s) e ∧ Below w.heap.size w W' := by
  have HGT := hid (bn_get s)
  have HBY := hid (fun j (h : j < s.size) => byte_bd (s := s) h)
  have HNO : Hid (es (bn s) = ([], 0) → EscR (bn s) (.returned (.tuple #[.string ⟨#[]⟩, .int .i64 0]))) := fun h => ⟨⟨#[]⟩, by rw [h]; rfl, by rw [h]; rfl⟩
  by_cases h2 : s.size < 2
  · have a1 : ¬ (2 : Int) ≤ (s.size : Int) := by omega
    have a2 : (s.size : Int) < 5 := by omega
    have HE : Hid (EscR (bn s) (.returned (.tuple #[.string ⟨#[]⟩, .int .i64 0]))) := HNO.out (es_short (by rw [getD_at, List.getElem?_eq_none (by rw [bn_length]; omega)]; simp) (.inl (by rw [bn_length]; omega)))
    clear HNO HGT HBY
    go_enter Tryz.func55, Tryz.ntmps55
    go_wp2
    go_ret2
    exact ⟨HE.out, Below.refl _ _⟩
  have a1 : (2 : Int) ≤ (s.size : Int) := by omega
  have g1 := (HGT.out 1 (by omega)).symm
  have HB1 := hid (bn_one s 1 (by omega))
  obtain ⟨y1, hy1⟩ : ∃ y, (bn s)[1]?.getD 0 = y := ⟨_, rfl⟩
  rw [hy1] at g1 HB1
  have HY1 : Hid ((bn s).getD 1 0 = y1) := by show _ = _; rw [getD_at]; exact hy1
  clear hy1
  by_cases h34 : y1 = 34 ∨ y1 = 92
  · have HE : Hid (EscR (bn s) (.returned (.tuple #[.string (s.extract 1 2), .int .i64 2]))) := by
      have e : es (bn s) = ([y1], 2) := by unfold es; rw [HY1.out, if_pos h34]
      exact ⟨_, by rw [e]; exact HB1.out, by rw [e]; rfl⟩
    have hq : (y1 == 34) = true ∨ ((y1 == 34) = false ∧ (y1 == 92) = true) := by
      rcases h34 with h | h <;> subst h <;> simp
    clear h34 HNO HGT HBY HY1 HB1
    rcases hq with q | ⟨q, q2⟩
    all_goals
      go_enter Tryz.func55, Tryz.ntmps55
      go_wp2
      go_ret2
      exact ⟨HE.out, Below.refl _ _⟩
  have H34 : Hid (¬ ((bn s).getD 1 0 = 34 ∨ (bn s).getD 1 0 = 92)) := by rw [HY1.out]; exact h34
  have q1 : (y1 == 34) = false := by simp; omega
  have q2 : (y1 == 92) = false := by simp; omega
  clear h34 HB1
  by_cases h5 : s.size < 5
  · have a2 : (s.size : Int) < 5 := by omega
    have HE := hid (HNO.out (es_short H34.out (.inl (by rw [bn_length]; omega))))
    clear HNO HGT HBY HY1 H34
    go_enter Tryz.func55, Tryz.ntmps55
    go_wp2
    go_ret2
    exact ⟨HE.out, Below.refl _ _⟩
  have a2 : ¬ (s.size : Int) < 5 := by omega
  by_cases hu : y1 = 117
  rotate_left
  · have q3 : (y1 != 117) = true := by simpa using hu
    have HE := hid (HNO.out (es_short H34.out (.inr (.inl (by rw [HY1.out]; exact hu)))))
    clear HNO HGT HBY HY1 H34 hu
    go_enter Tryz.func55, Tryz.ntmps55
    go_wp2
    go_ret2
    exact ⟨HE.out, Below.refl _ _⟩
  have q3 : (y1 != 117) = false := by rw [hu]; rfl
  have g2 := (HGT.out 2 (by omega)).symm
  obtain ⟨y2, hy2⟩ : ∃ y, (bn s)[2]?.getD 0 = y := ⟨_, rfl⟩
  rw [hy2] at g2
  have HY2 : Hid ((bn s).getD 2 0 = y2) := by show _ = _; rw [getD_at]; exact hy2
  clear hy2
  by_cases hb : y2 = 123
  rotate_left
  · have q4 : (y2 != 123) = true := by simpa using hb
    have HE := hid (HNO.out (es_short H34.out (.inr (.inr (by rw [HY2.out]; exact hb)))))
    clear HNO HGT HBY HY1 H34 hu hb
    go_enter Tryz.func55, Tryz.ntmps55
    go_wp2
    go_ret2
    exact ⟨HE.out, Below.refl _ _⟩
  have q4 : (y2 != 123) = false := by rw [hb]; rfl
  have HU : Hid ((bn s).getD 1 0 = 117) := HY1.out.trans hu
  have HV : Hid ((bn s).getD 2 0 = 123) := HY2.out.trans hb
  have hsz : 5 ≤ s.size := by omega
  clear hu hb HY1 HY2
  go_enter Tryz.func55, Tryz.ntmps55
  go_wp2_with fail
  go_loopw [4, 5] (fun vn vi wr => ∃ (j : Nat) (n : Int), j ≤ 6 ∧ 3 + j ≤ s.size ∧ vn = .int .i64 n ∧ vi = .int .i64 ((3 + j : Nat) : Int) ∧ 0 ≤ n ∧ n ≤ 16777215 ∧ Hid (n = hv (((bn s).drop 3).take j)) ∧ Hid (∀ k, k < j → isd ((bn s)[3 + k]?.getD 0) = true) ∧ Hid (w = wr)) (fun _ vi _ => s.size - (intOf vi).toNat)
  case atStart => exact ⟨0, 0, by omega, by omega, rfl, rfl, by omega, by omega, rfl, fun k hk => by omega, rfl⟩
  case round =>
    obtain ⟨j, n, hj, hjs, rfl, rfl, hn0, hn1, HN, HD, HW⟩ := hrel
    have hw := HW.out
    subst hw
    clear HW
    have HLEN : Hid (j ≤ (bn s).length - 3) := by show _ ≤ _; rw [bn_length]; omega
    have HDS : Hid (3 + j = s.size ∨ j = 6 ∨ isd ((bn s)[3 + j]?.getD 0) = false → ds (bn s) = ((bn s).drop 3).take j ∧ (ds (bn s)).length = j) := fun he => by
      have h := ds_of (l := bn s) hj (by rw [bn_length]; exact hjs) HD.out (by rw [bn_length]; exact he)
      exact ⟨h, by rw [h, List.length_take, List.length_drop]; have := HLEN.out; omega⟩
    have HES : Hid (3 + j = s.size ∨ j = 6 ∨ isd ((bn s)[3 + j]?.getD 0) = false → es (bn s) = if j ≠ 0 ∧ (bn s)[3 + j]?.getD 0 = 125 ∧ scal n = true then (enc n, j + 4) else ([], 0)) := fun he => by
      obtain ⟨d1, d2⟩ := HDS.out he
      rw [es_long H34.out HU.out HV.out d1 d2, d1, ← HN.out, getD_at]
    have HSN : Hid (∀ y, (bn s)[3 + j]?.getD 0 = y → 3 + j < s.size → j < 6 → isd y = true → 16 * n + dg y = hv (((bn s).drop 3).take (j + 1)) ∧ (∀ k, k < j + 1 → isd ((bn s)[3 + k]?.getD 0) = true)) := fun y hy hl h6 hd => by
      refine ⟨?_, fun k hk => ?_⟩
      · rw [take_snoc (by rw [List.length_drop, bn_length]; omega), hv_snoc, ← HN.out, List.getElem?_drop, hy]
      · by_cases hkj : k = j
        · rw [hkj, hy]; exact hd
        · exact HD.out k (by omega)
    have HBN : Hid (∀ m, (∀ k, k < j + 1 → isd ((bn s)[3 + k]?.getD 0) = true) → j < 6 → m = hv (((bn s).drop 3).take (j + 1)) → 0 ≤ m ∧ m ≤ 16777215) := fun m hk h6 hm => by
      rw [hm]
      refine hv_bd (fun c hc => ?_) (by rw [List.length_take]; omega)
      obtain ⟨q, hq, rfl⟩ := List.mem_take_iff_getElem.1 hc
      have h := hk q (by omega)
      rw [← List.getElem?_drop, List.getElem?_eq_getElem (by omega)] at h
      exact h
    obtain ⟨i, hi⟩ : ∃ i, 3 + j = i := ⟨_, rfl⟩
    rw [hi] at hjs HES HSN ⊢
    have HI := hid hi
    clear HDS HN HD HLEN
    by_cases hlt : i < s.size
    rotate_left
    · have b1 : ¬ (i : Int) < (s.size : Int) := by omega
      have b2 : ((i : Int) == 3) = false := by simp; omega
      have b3 : (s.size : Int) ≤ (i : Int) := by omega
      have HE : Hid (EscR (bn s) (.returned (.tuple #[.string ⟨#[]⟩, .int .i64 0]))) := HNO.out (by
        rw [HES.out (.inl (by omega)), if_neg]
        rintro ⟨_, h, _⟩
        rw [List.getElem?_eq_none (by rw [bn_length]; omega)] at h
        simp at h)
      clear HNO HES HSN HBN HGT HBY HU HV H34 hi
      go_wp2
      go_ret2
      exact ⟨HE.out, Below.refl _ _⟩
    have b1 : (i : Int) < (s.size : Int) := by omega
    have b3 : ¬ (s.size : Int) ≤ (i : Int) := by omega
    have gy := (HGT.out i hlt).symm
    obtain ⟨z0, z1⟩ := HBY.out i hlt
    obtain ⟨y, hy⟩ : ∃ y, (bn s)[i]?.getD 0 = y := ⟨_, rfl⟩
    rw [hy] at gy z0 z1 HES
    have HSY := hid (HSN.out y hy hlt)
    have HDG := hid (fun W => rdigit_any y z0 z1 W)
    have hdb := dg_bd (c := y)
    clear hy HSN HGT HBY
    by_cases hgo : i < 9 ∧ 0 ≤ dg y
    · obtain ⟨h9, hd⟩ := hgo
      have b4 : (i : Int) < 9 := by omega
      obtain ⟨HA, HC⟩ := HSY.out (by omega) (by unfold isd; exact decide_eq_true hd)
      obtain ⟨v0, v1⟩ := HBN.out _ HC (by omega) HA
      have HA2 := hid HA
      have HC2 := hid HC
      obtain ⟨d, hdd⟩ : ∃ d, dg y = d := ⟨_, rfl⟩
      rw [hdd] at HDG hdb hd v0 v1 HA2
      clear HSY HBN HES HNO HA HC hdd hi
      go_wp2_with (go_at_call 76; refine (HDG.out _).mono ?_; rintro e w2 ⟨rfl, hw2⟩; obtain rfl := hw2.symm)
      go_roundw
      case rel => exact ⟨j + 1, 16 * n + d, by have := HI.out; omega, by have := HI.out; omega, by first | rfl | go_num, by have := HI.out; first | (rw [show 3 + (j + 1) = i + 1 by omega]; go_num), v0, v1, HA2, HC2, trivial⟩
      case measure => simp [intOf]; omega
    · have hx : (¬ (i : Int) < 9 ∧ j = 6) ∨ ((i : Int) < 9 ∧ ¬ 0 ≤ dg y) := by
        by_cases h9 : i < 9
        · exact .inr ⟨by omega, fun h => hgo ⟨h9, h⟩⟩
        · exact .inl ⟨by omega, by omega⟩
      have HE2 : Hid (es (bn s) = if j ≠ 0 ∧ y = 125 ∧ scal n = true then (enc n, j + 4) else ([], 0)) := HES.out (by
        rcases hx with h | h
        · exact .inr (.inl h.2)
        · exact .inr (.inr (by unfold isd; exact decide_eq_false h.2)))
      have hx2 : ¬ (i : Int) < 9 ∨ ((i : Int) < 9 ∧ ¬ 0 ≤ dg y) := by omega
      obtain ⟨d, hdd⟩ : ∃ d, dg y = d := ⟨_, rfl⟩
      rw [hdd] at HDG hdb hx2
      have hwn : IntKind.i32.wrap n = n := by simp [IntKind.wrap, IntKind.bits, IntKind.signed]; omega
      have HSC := hid (fun W => U.refScalar_any n W)
      have HYS : Hid (scal n = true → j ≠ 0 → y = 125 → ∀ W, Calls Tryz.prog 78 #[.int .i32 n] W fun e W' => (∃ t, e = .returned (.string t) ∧ U.bn t = enc n) ∧ Below W.heap.size W W') := fun h _ _ W => U.refBytes_any n hn0 (by unfold scal at h; simp at h; omega) W
      have HOK : Hid (∀ t, scal n = true → j ≠ 0 → y = 125 → U.bn t = enc n → EscR (bn s) (.returned (.tuple #[.string t, .int .i64 ((i : Int) + 1)]))) := fun t h1 h2 h3 h4 => by
        have e : es (bn s) = (enc n, j + 4) := by rw [HE2.out, if_pos ⟨h2, h3, h1⟩]
        refine ⟨t, by rw [e]; exact h4, ?_⟩
        rw [e]
        have := HI.out
        rw [show ((j + 4 : Nat) : Int) = (i : Int) + 1 by omega]
      clear HSY HBN HES hgo hx hdd hi
      have hcase : (j = 0 ∧ ((i : Int) == 3) = true) ∨ (((i : Int) == 3) = false ∧ (y != 125) = true ∧ y ≠ 125) ∨ (((i : Int) == 3) = false ∧ (y != 125) = false ∧ y = 125 ∧ j ≠ 0) := by
        simp only [beq_iff_eq, beq_eq_false_iff_ne, bne_iff_ne, bne_eq_false_iff_eq]
        have := HI.out
        omega
      rcases hcase with ⟨c1, c2⟩ | ⟨c1, c2, c3⟩ | ⟨c1, c2, c3, c4⟩
      · have HE := hid (HNO.out (by rw [HE2.out, if_neg (fun h => h.1 c1)]))
        clear HNO HE2 HOK HYS HSC c1
        rcases hx2 with h9 | ⟨h9, h0⟩
        all_goals
          go_wp2_with (go_at_call 76; refine (HDG.out _).mono ?_; rintro e w2 ⟨rfl, hw2⟩; obtain rfl := hw2.symm)
          go_ret2
          exact ⟨HE.out, Below.refl _ _⟩
      · have HE := hid (HNO.out (by rw [HE2.out, if_neg (fun h => c3 h.2.1)]))
        clear HNO HE2 HOK HYS HSC c3
        rcases hx2 with h9 | ⟨h9, h0⟩
        all_goals
          go_wp2_with (go_at_call 76; refine (HDG.out _).mono ?_; rintro e w2 ⟨rfl, hw2⟩; obtain rfl := hw2.symm)
          go_ret2
          exact ⟨HE.out, Below.refl _ _⟩
      · cases hsc : scal n with
        | false =>
          rw [hsc] at HSC
          have HE := hid (HNO.out (by rw [HE2.out, if_neg (fun h => by rw [hsc] at h; simp at h)]))
          clear HNO HE2 HOK HYS c3 c4 hsc
          rcases hx2 with h9 | ⟨h9, h0⟩
          all_goals
            go_wp2_with (first | (go_at_call 76; refine (HDG.out _).mono ?_; rintro e w2 ⟨rfl, hw2⟩; obtain rfl := hw2.symm) | (go_at_call 77; refine (HSC.out _).mono ?_; rintro e w2 ⟨rfl, hw2⟩; obtain rfl := hw2.symm))
            go_ret2
            exact ⟨HE.out, Below.refl _ _⟩
        | true =>
          rw [hsc] at HSC
          have HB := hid (HYS.out hsc c4 c3)
          have HF := hid (fun t h => HOK.out t hsc c4 c3 h)
          clear HNO HE2 HOK HYS c3 c4 hsc
          rcases hx2 with h9 | ⟨h9, h0⟩
          all_goals
            go_wp2_with (first | (go_at_call 76; refine (HDG.out _).mono ?_; rintro e w2 ⟨rfl, hw2⟩; obtain rfl := hw2.symm) | (go_at_call 77; refine (HSC.out _).mono ?_; rintro e w2 ⟨rfl, hw2⟩; obtain rfl := hw2.symm) | (go_at_call 78; refine (HB.out _).mono ?_; rintro e w3 ⟨⟨t, rfl, ht⟩, B3⟩))
            go_ret2
            exact ⟨HF.out t ht, B3⟩
end Go.Proofs.YtphkdagapoonjaaGreatDoor.Lx
namespace Go.Proofs.YtphkdagapoonjaaGreatDoor.Lx
open Go.RowKit
open Go.Proofs.YtphkdagapoonjaaGreatDoor.F (bn bn_length bn_append bn_inj bn_get byte_bd hid bn_extract isEmpty_false isEmpty_true str_eq same_eq)
open Go.Proofs.YtphkdagapoonjaaGreatDoor.U (nx enc encs scal Bytes)
set_option linter.unusedVariables false

def TxR (l : List Int) (e : Ending) : Prop := ∃ t : ByteArray, bn t = (txl l).1 ∧ e = .returned (.tuple #[.string t, .int .i64 (txl l).2.1, .int .i64 (txl l).2.2])
set_option maxRecDepth 100000 in
set_option maxHeartbeats 8000000 in
theorem rtext_any (s : ByteArray) (h0 : 0 < s.size) (hs : s.size ≤ 1000000) (w : World) : Calls Tryz.prog 41 #[.string s] w fun e W' => TxR (bn s) e ∧ Below w.heap.size w W' := by
  have HGT := hid (bn_get s)
  have HBY := hid (fun j (h : j < s.size) => byte_bd (s := s) h)
  have HEX : Hid (∀ i W, Calls Tryz.prog 55 #[.string (s.extract i s.size)] W fun e W' => EscR ((bn s).drop i) e ∧ Below W.heap.size W W') := fun i W => by
    have h := rescape_any (s.extract i s.size) (by simp; omega) W
    rw [bn_extract] at h
    exact h
  have HSTP : Hid (∀ (i : Nat) (y : Int) (t : List Int), i < s.size → (bn s)[i]?.getD 0 = y → tx (s.size - i) t ((bn s).drop i) i =
    if y = 34 then (t, i + 1, 0) else if y ≠ 92 then tx (s.size - (i + 1)) (t ++ [y]) ((bn s).drop (i + 1)) (i + 1)
    else if (es ((bn s).drop i)).2 = 0 then ([], 0, i) else tx (s.size - (i + (es ((bn s).drop i)).2)) (t ++ (es ((bn s).drop i)).1) ((bn s).drop (i + (es ((bn s).drop i)).2)) (i + (es ((bn s).drop i)).2)) := fun i y t hi hy => by
    have h := tx_at (l := bn s) (i := i) (y := y) (by rw [bn_length]; exact hi) hy t
    rw [bn_length] at h
    exact h
  have HEI : Hid (∀ i, i < s.size → (bn s)[i]?.getD 0 = 92 → (es ((bn s).drop i)).2 ≠ 0 → (es ((bn s).drop i)).1.length + 1 ≤ (es ((bn s).drop i)).2 ∧ (es ((bn s).drop i)).2 ≤ s.size - i) := fun i hi hy hn => by
    have h := es_inv (l := (bn s).drop i) (by rw [getD_at, List.getElem?_drop, Nat.add_zero]; exact hy) hn
    rw [List.length_drop, bn_length] at h
    exact ⟨h.2.2.1, h.2.2.2.1⟩
  have HB1 := hid (bn_one s)
  have HMK : Hid (∀ (t : ByteArray) (x : List Int) (k e : Nat), txl (bn s) = (x, k, e) → bn t = x → TxR (bn s) (.returned (.tuple #[.string t, .int .i64 k, .int .i64 e]))) := fun t x k e h ht => ⟨t, by rw [h]; exact ht, by rw [h]⟩
  have H0 : Hid (tx (s.size - 1) (bn ⟨#[]⟩) ((bn s).drop 1) 1 = txl (bn s)) := by show _ = _; unfold txl; rw [bn_length]; rfl
  obtain ⟨R, hR⟩ : ∃ R, txl (bn s) = R := ⟨_, rfl⟩
  rw [hR] at HMK H0
  clear hR
  go_enter Tryz.func41, Tryz.ntmps41
  go_wp2_with fail
  go_loopw [5, 6] (fun vt vi wr => ∃ (i : Nat) (T : ByteArray), 1 ≤ i ∧ i ≤ s.size ∧ vt = .string T ∧ vi = .int .i64 (i : Int) ∧ T.size ≤ i ∧ Hid (tx (s.size - i) (bn T) ((bn s).drop i) i = R) ∧ Hid (Below w.heap.size w wr)) (fun _ vi _ => s.size - (intOf vi).toNat)
  case atStart => exact ⟨1, ⟨#[]⟩, by omega, by omega, rfl, rfl, Nat.zero_le _, H0, Below.refl _ _⟩
  case round =>
    obtain ⟨i, T, hi1, hi, rfl, rfl, hT, HR, HB⟩ := hrel
    by_cases hlt : i < s.size
    rotate_left
    · have hltz : ¬ (i : Int) < (s.size : Int) := by omega
      have HE : Hid (([], 0, 0) = R) := by
        show _ = _
        rw [← HR.out, List.drop_eq_nil_of_le (by rw [bn_length]; omega), tx_nil]
      have HF := hid (HMK.out ⟨#[]⟩ _ _ _ HE.out.symm rfl)
      clear HR HE HMK HGT HBY HEX HSTP HEI HB1 H0
      go_wp2
      go_ret3
      exact ⟨HF.out, HB.out⟩
    have hltz : (i : Int) < (s.size : Int) := by omega
    have gy := (HGT.out i hlt).symm
    obtain ⟨z0, z1⟩ := HBY.out i hlt
    have HO := hid (HB1.out i hlt)
    have HSS := hid (fun y hy => (HSTP.out i y (bn T) hlt hy).symm.trans HR.out)
    have HEE := hid (HEI.out i hlt)
    have HXX := hid (HEX.out i wr)
    obtain ⟨y, hy⟩ : ∃ y, (bn s)[i]?.getD 0 = y := ⟨_, rfl⟩
    rw [hy] at gy z0 z1 HO HEE
    have HS2 := hid (HSS.out y hy)
    clear hy HSS HGT HBY HEX HSTP HEI HB1 H0 HR
    by_cases h34 : y = 34
    · have q : (y == 34) = true := by simpa using h34
      have HF := hid (HMK.out T _ _ _ (HS2.out.symm.trans (if_pos h34)) rfl)
      clear HS2 h34 HEE HXX HMK HO
      go_wp2
      go_ret3
      exact ⟨HF.out, HB.out⟩
    have q1 : (y == 34) = false := by simpa using h34
    rw [if_neg h34] at HS2
    by_cases h92 : y ≠ 92
    · have q2 : (y != 92) = true := by simpa using h92
      rw [if_pos h92, ← HO.out, ← bn_append] at HS2
      have hx1 : (s.extract i (i + 1)).size = 1 := by simp; omega
      clear h34 h92 HEE HXX HMK HO
      go_wp2
      go_roundw
      case rel => exact ⟨i + 1, _, by omega, by omega, rfl, by go_num, by rw [ByteArray.size_append, hx1]; omega, HS2, HB⟩
      case measure => simp [intOf]; omega
    have h92' : y = 92 := by omega
    have q2 : (y != 92) = false := by rw [h92']; rfl
    rw [if_neg h92] at HS2
    have HE3 := hid (HEE.out h92')
    unfold EscR at HXX
    obtain ⟨E, hE⟩ : ∃ E, es ((bn s).drop i) = E := ⟨_, rfl⟩
    rw [hE] at HXX HS2 HE3
    obtain ⟨X, n⟩ := E
    simp only at HXX HS2 HE3
    clear hE h34 h92 h92' HEE HO
    by_cases hn : n = 0
    · have q3 : ((n : Int) == 0) = true := by rw [hn]; rfl
      have HF := hid (HMK.out ⟨#[]⟩ _ _ _ (HS2.out.symm.trans (if_pos hn)) rfl)
      clear HS2 hn HE3 HMK
      go_wp2_with (go_at_call 55; refine HXX.out.mono ?_; rintro e w2 ⟨⟨t, ht, rfl⟩, B2⟩)
      go_ret3
      exact ⟨HF.out, HB.out.trans (B2.mono HB.out.size)⟩
    · have q3 : ((n : Int) == 0) = false := by simp; omega
      obtain ⟨e1, e2⟩ := HE3.out hn
      rw [if_neg hn] at HS2
      have HTS : Hid (∀ t : ByteArray, bn t = X → t.size ≤ n) := fun t ht => by rw [← bn_length, ht]; omega
      have HAP : Hid (∀ t : ByteArray, bn t = X → tx (s.size - (i + n)) (bn (T ++ t)) ((bn s).drop (i + n)) (i + n) = R) := fun t ht => by rw [bn_append, ht]; exact HS2.out
      clear HS2 hn HE3 HMK
      go_wp2_with (go_at_call 55; refine HXX.out.mono ?_; rintro e w2 ⟨⟨t, ht, rfl⟩, B2⟩; have hts := HTS.out t ht; have HTT := hid ht; clear ht)
      go_roundw
      case rel => exact ⟨i + n, _, by omega, by omega, rfl, by go_num, by rw [ByteArray.size_append]; omega, HAP.out t HTT.out, HB.out.trans (B2.mono HB.out.size)⟩
      case measure => simp [intOf]; omega
end Go.Proofs.YtphkdagapoonjaaGreatDoor.Lx
