/- The contracts of the document's own answer (package portcullisref01): value, whole, begins. -/
import Derived.Test.YtnkbfpmaifgenaaUQ
import Derived.Test.YtnkbfpmaifgenaaUY
import Derived.RegionTactic
namespace Go.Proofs.Ytnkbfpmaifgenaa.U
open Go.RowKit

/-- The bytes behind the first, one by one. -/
def valF (z : Int) (l : List Int) : Int := l.foldl (fun c b => c * 64 + b - 128) z
theorem valF_snoc (z : Int) (l : List Int) (b : Int) : valF z (l ++ [b]) = valF z l * 64 + b - 128 := by simp [valF]
theorem bn_take_snoc (s : ByteArray) (k : Nat) (h : k < s.size) : ((bn s).drop 1).take k = ((bn s).drop 1).take (k - 1) ++ (if 1 ≤ k then [(s[k].toNat : Int)] else []) := by
  by_cases hk : 1 ≤ k
  · rw [if_pos hk]
    obtain ⟨m, rfl⟩ : ∃ m, k = m + 1 := ⟨k - 1, by omega⟩
    have hm : m < ((bn s).drop 1).length := by rw [List.length_drop, bn_length]; omega
    rw [List.take_succ_eq_append_getElem hm, Nat.add_sub_cancel]
    congr 2
    rw [List.getElem_drop]
    simp only [bn, List.getElem_map, Nat.add_comm 1 m]
    rfl
  · have : k = 0 := by omega
    subst this; simp
theorem four (s : ByteArray) (m : Nat) (hm : s.size = m) (h0 : 0 < s.size) : bn s = (s[0].toNat : Int) :: ((bn s).drop 1).take (m - 1) := by
  rw [List.take_of_length_le (by rw [List.length_drop, bn_length]; omega)]
  exact bn_cons s h0

set_option maxRecDepth 100000 in
set_option maxHeartbeats 1000000 in
theorem value1 (s : ByteArray) (hm : s.size = 1) (w : World) :
    Calls Try.prog 22 #[.string s] w fun e w' => e = .returned (.int .i32 (valR (bn s))) ∧ w' = w := by
  have hp : 0 < s.size := by omega
  have HM : Hid (s.size = 1) := hm
  have hV : Hid (valR (bn s) = valF ((s[0].toNat : Int) - 0) (((bn s).drop 1).take (1 - 1))) := by
    show _ = _
    have hl : (((bn s).drop 1).take (1 - 1)).length = 1 - 1 := by rw [List.length_take, List.length_drop, bn_length]; omega
    rw [four s 1 hm hp]
    simp only [List.drop_succ_cons, List.drop_zero]
    generalize ((bn s).drop 1).take (1 - 1) = r at hl ⊢
    obtain rfl := List.length_eq_zero_iff.1 hl
    simp [valR, valF]
  have hz1 : 1 ≤ s.size := by omega
  have hz2 : s.size ≤ 1 := by omega
  have hb0 : (s[0].toNat : Int) ≤ 255 := by have := s[0].toNat_lt; omega
  clear hm
  have g2 : ((s.size : Int) == 2) = false := by simp; omega
  have g3 : ((s.size : Int) == 3) = false := by simp; omega
  have g4 : ((s.size : Int) == 4) = false := by simp; omega
  go_enter Try.func22, Try.ntmps22
  go_wp2_with fail
  go_loop [3, 4] (fun c i => ∃ (k : Nat) (C : Int), 1 ≤ k ∧ k ≤ s.size ∧ i = .int .i64 k ∧ c = .int .i32 C ∧ Hid (C = valF ((s[0].toNat : Int) - 0) (((bn s).drop 1).take (k - 1))) ∧ (k = 1 ∧ -240 ≤ C ∧ C ≤ 255 ∨ k = 2 ∧ -15488 ≤ C ∧ C ≤ 16447 ∨ k = 3 ∧ -991360 ≤ C ∧ C ≤ 1052735 ∨ k = 4)) (fun _ i => s.size - (intOf i).toNat)
  case atStart => exact ⟨1, _, Nat.le_refl _, by omega, rfl, rfl, by show _ = _; simp [valF], by omega⟩
  case round =>
    obtain ⟨k, C, hk1, hk2, rfl, rfl, HC, hbd⟩ := hrel
    by_cases hlt : k < s.size
    · have hbk : (s[k].toNat : Int) ≤ 255 := by have := s[k].toNat_lt; omega
      have HT : Hid (((bn s).drop 1).take k = ((bn s).drop 1).take (k - 1) ++ [(s[k].toNat : Int)]) := by
        show _ = _; rw [bn_take_snoc s k hlt, if_pos hk1]
      go_wp2
      go_round
      case rel => exact ⟨k + 1, _, by omega, by omega, by go_num, rfl, by show _ = _; rw [Nat.add_sub_cancel, HT.out, valF_snoc, HC.out], by omega⟩
      case measure => simp [intOf]; omega
    · have hkm : k = 1 := by omega
      have HK : Hid (k = 1) := hkm
      clear hkm
      go_wp2
      go_ret
      exact ⟨ret_int (by rw [hV.out, HC.out, HK.out]), rfl⟩

set_option maxRecDepth 100000 in
set_option maxHeartbeats 1000000 in
theorem value2 (s : ByteArray) (hm : s.size = 2) (w : World) :
    Calls Try.prog 22 #[.string s] w fun e w' => e = .returned (.int .i32 (valR (bn s))) ∧ w' = w := by
  have hp : 0 < s.size := by omega
  have HM : Hid (s.size = 2) := hm
  have hV : Hid (valR (bn s) = valF ((s[0].toNat : Int) - 192) (((bn s).drop 1).take (2 - 1))) := by
    show _ = _
    have hl : (((bn s).drop 1).take (2 - 1)).length = 2 - 1 := by rw [List.length_take, List.length_drop, bn_length]; omega
    rw [four s 2 hm hp]
    simp only [List.drop_succ_cons, List.drop_zero]
    generalize ((bn s).drop 1).take (2 - 1) = r at hl ⊢
    match r, hl with
    | [x], _ => simp [valR, valF]
  have hz1 : 2 ≤ s.size := by omega
  have hz2 : s.size ≤ 2 := by omega
  have hb0 : (s[0].toNat : Int) ≤ 255 := by have := s[0].toNat_lt; omega
  clear hm
  have g2 : ((s.size : Int) == 2) = true := by simp; omega
  have g3 : ((s.size : Int) == 3) = false := by simp; omega
  have g4 : ((s.size : Int) == 4) = false := by simp; omega
  go_enter Try.func22, Try.ntmps22
  go_wp2_with fail
  go_loop [3, 4] (fun c i => ∃ (k : Nat) (C : Int), 1 ≤ k ∧ k ≤ s.size ∧ i = .int .i64 k ∧ c = .int .i32 C ∧ Hid (C = valF ((s[0].toNat : Int) - 192) (((bn s).drop 1).take (k - 1))) ∧ (k = 1 ∧ -240 ≤ C ∧ C ≤ 255 ∨ k = 2 ∧ -15488 ≤ C ∧ C ≤ 16447 ∨ k = 3 ∧ -991360 ≤ C ∧ C ≤ 1052735 ∨ k = 4)) (fun _ i => s.size - (intOf i).toNat)
  case atStart => exact ⟨1, _, Nat.le_refl _, by omega, rfl, rfl, by show _ = _; simp [valF], by omega⟩
  case round =>
    obtain ⟨k, C, hk1, hk2, rfl, rfl, HC, hbd⟩ := hrel
    by_cases hlt : k < s.size
    · have hbk : (s[k].toNat : Int) ≤ 255 := by have := s[k].toNat_lt; omega
      have HT : Hid (((bn s).drop 1).take k = ((bn s).drop 1).take (k - 1) ++ [(s[k].toNat : Int)]) := by
        show _ = _; rw [bn_take_snoc s k hlt, if_pos hk1]
      go_wp2
      go_round
      case rel => exact ⟨k + 1, _, by omega, by omega, by go_num, rfl, by show _ = _; rw [Nat.add_sub_cancel, HT.out, valF_snoc, HC.out], by omega⟩
      case measure => simp [intOf]; omega
    · have hkm : k = 2 := by omega
      have HK : Hid (k = 2) := hkm
      clear hkm
      go_wp2
      go_ret
      exact ⟨ret_int (by rw [hV.out, HC.out, HK.out]), rfl⟩

set_option maxRecDepth 100000 in
set_option maxHeartbeats 1000000 in
theorem value3 (s : ByteArray) (hm : s.size = 3) (w : World) :
    Calls Try.prog 22 #[.string s] w fun e w' => e = .returned (.int .i32 (valR (bn s))) ∧ w' = w := by
  have hp : 0 < s.size := by omega
  have HM : Hid (s.size = 3) := hm
  have hV : Hid (valR (bn s) = valF ((s[0].toNat : Int) - 224) (((bn s).drop 1).take (3 - 1))) := by
    show _ = _
    have hl : (((bn s).drop 1).take (3 - 1)).length = 3 - 1 := by rw [List.length_take, List.length_drop, bn_length]; omega
    rw [four s 3 hm hp]
    simp only [List.drop_succ_cons, List.drop_zero]
    generalize ((bn s).drop 1).take (3 - 1) = r at hl ⊢
    match r, hl with
    | [x, y], _ => simp [valR, valF]
  have hz1 : 3 ≤ s.size := by omega
  have hz2 : s.size ≤ 3 := by omega
  have hb0 : (s[0].toNat : Int) ≤ 255 := by have := s[0].toNat_lt; omega
  clear hm
  have g2 : ((s.size : Int) == 2) = false := by simp; omega
  have g3 : ((s.size : Int) == 3) = true := by simp; omega
  have g4 : ((s.size : Int) == 4) = false := by simp; omega
  go_enter Try.func22, Try.ntmps22
  go_wp2_with fail
  go_loop [3, 4] (fun c i => ∃ (k : Nat) (C : Int), 1 ≤ k ∧ k ≤ s.size ∧ i = .int .i64 k ∧ c = .int .i32 C ∧ Hid (C = valF ((s[0].toNat : Int) - 224) (((bn s).drop 1).take (k - 1))) ∧ (k = 1 ∧ -240 ≤ C ∧ C ≤ 255 ∨ k = 2 ∧ -15488 ≤ C ∧ C ≤ 16447 ∨ k = 3 ∧ -991360 ≤ C ∧ C ≤ 1052735 ∨ k = 4)) (fun _ i => s.size - (intOf i).toNat)
  case atStart => exact ⟨1, _, Nat.le_refl _, by omega, rfl, rfl, by show _ = _; simp [valF], by omega⟩
  case round =>
    obtain ⟨k, C, hk1, hk2, rfl, rfl, HC, hbd⟩ := hrel
    by_cases hlt : k < s.size
    · have hbk : (s[k].toNat : Int) ≤ 255 := by have := s[k].toNat_lt; omega
      have HT : Hid (((bn s).drop 1).take k = ((bn s).drop 1).take (k - 1) ++ [(s[k].toNat : Int)]) := by
        show _ = _; rw [bn_take_snoc s k hlt, if_pos hk1]
      go_wp2
      go_round
      case rel => exact ⟨k + 1, _, by omega, by omega, by go_num, rfl, by show _ = _; rw [Nat.add_sub_cancel, HT.out, valF_snoc, HC.out], by omega⟩
      case measure => simp [intOf]; omega
    · have hkm : k = 3 := by omega
      have HK : Hid (k = 3) := hkm
      clear hkm
      go_wp2
      go_ret
      exact ⟨ret_int (by rw [hV.out, HC.out, HK.out]), rfl⟩

set_option maxRecDepth 100000 in
set_option maxHeartbeats 1000000 in
theorem value4 (s : ByteArray) (hm : s.size = 4) (w : World) :
    Calls Try.prog 22 #[.string s] w fun e w' => e = .returned (.int .i32 (valR (bn s))) ∧ w' = w := by
  have hp : 0 < s.size := by omega
  have HM : Hid (s.size = 4) := hm
  have hV : Hid (valR (bn s) = valF ((s[0].toNat : Int) - 240) (((bn s).drop 1).take (4 - 1))) := by
    show _ = _
    have hl : (((bn s).drop 1).take (4 - 1)).length = 4 - 1 := by rw [List.length_take, List.length_drop, bn_length]; omega
    rw [four s 4 hm hp]
    simp only [List.drop_succ_cons, List.drop_zero]
    generalize ((bn s).drop 1).take (4 - 1) = r at hl ⊢
    match r, hl with
    | [x, y, z], _ => simp [valR, valF]
  have hz1 : 4 ≤ s.size := by omega
  have hz2 : s.size ≤ 4 := by omega
  have hb0 : (s[0].toNat : Int) ≤ 255 := by have := s[0].toNat_lt; omega
  clear hm
  have g2 : ((s.size : Int) == 2) = false := by simp; omega
  have g3 : ((s.size : Int) == 3) = false := by simp; omega
  have g4 : ((s.size : Int) == 4) = true := by simp; omega
  go_enter Try.func22, Try.ntmps22
  go_wp2_with fail
  go_loop [3, 4] (fun c i => ∃ (k : Nat) (C : Int), 1 ≤ k ∧ k ≤ s.size ∧ i = .int .i64 k ∧ c = .int .i32 C ∧ Hid (C = valF ((s[0].toNat : Int) - 240) (((bn s).drop 1).take (k - 1))) ∧ (k = 1 ∧ -240 ≤ C ∧ C ≤ 255 ∨ k = 2 ∧ -15488 ≤ C ∧ C ≤ 16447 ∨ k = 3 ∧ -991360 ≤ C ∧ C ≤ 1052735 ∨ k = 4)) (fun _ i => s.size - (intOf i).toNat)
  case atStart => exact ⟨1, _, Nat.le_refl _, by omega, rfl, rfl, by show _ = _; simp [valF], by omega⟩
  case round =>
    obtain ⟨k, C, hk1, hk2, rfl, rfl, HC, hbd⟩ := hrel
    by_cases hlt : k < s.size
    · have hbk : (s[k].toNat : Int) ≤ 255 := by have := s[k].toNat_lt; omega
      have HT : Hid (((bn s).drop 1).take k = ((bn s).drop 1).take (k - 1) ++ [(s[k].toNat : Int)]) := by
        show _ = _; rw [bn_take_snoc s k hlt, if_pos hk1]
      go_wp2
      go_round
      case rel => exact ⟨k + 1, _, by omega, by omega, by go_num, rfl, by show _ = _; rw [Nat.add_sub_cancel, HT.out, valF_snoc, HC.out], by omega⟩
      case measure => simp [intOf]; omega
    · have hkm : k = 4 := by omega
      have HK : Hid (k = 4) := hkm
      clear hkm
      go_wp2
      go_ret
      exact ⟨ret_int (by rw [hV.out, HC.out, HK.out]), rfl⟩

theorem value_any (s : ByteArray) (h0 : 1 ≤ s.size) (h1 : s.size ≤ 4) (w : World) :
    Calls Try.prog 22 #[.string s] w fun e w' => e = .returned (.int .i32 (valR (bn s))) ∧ w' = w := by
  rcases (show s.size = 1 ∨ s.size = 2 ∨ s.size = 3 ∨ s.size = 4 by omega) with h | h | h | h
  · exact value1 s h w
  · exact value2 s h w
  · exact value3 s h w
  · exact value4 s h w

theorem str_eq_bn (t s : ByteArray) : (t.toList == s.toList) = decide (bn t = bn s) := by
  rw [Bool.eq_iff_iff, beq_iff_eq, decide_eq_true_eq, ByteArray.toList_eq, ByteArray.toList_eq]
  constructor
  · intro h; unfold bn; rw [h]
  · intro h; rw [bn_inj h]

set_option maxRecDepth 100000 in
set_option maxHeartbeats 1000000 in
theorem whole_any (s : ByteArray) (h0 : 1 ≤ s.size) (h1 : s.size ≤ 4) (w : World) :
    Calls Try.prog 21 #[.string s] w fun e w' => e = .returned (.bool (wholeR (bn s))) ∧ Below w.heap.size w w' := by
  obtain ⟨c, hc⟩ : ∃ c, c = valR (bn s) := ⟨_, rfl⟩
  have HC : Hid (c = valR (bn s)) := hc
  clear hc
  cases hs : scal c with
  | false =>
    have HS : Hid (scal c = false) := hs
    clear hs
    go_enter Try.func21, Try.ntmps21
    go_wp2_with fail
    refine (value_any _ h0 h1 _).mono ?_
    rw [← HC.out]
    rintro e w' ⟨rfl, rfl⟩
    go_wp2_with fail
    refine (refScalar_any _ _).mono ?_
    rw [HS.out]
    rintro e w' ⟨rfl, rfl⟩
    go_wp2
    go_ret
    exact ⟨ret_bool (by unfold wholeR; rw [← HC.out, HS.out]; rfl), Below.refl _ _⟩
  | true =>
    have hbd := scal_bd hs
    have HS : Hid (scal c = true) := hs
    clear hs
    go_enter Try.func21, Try.ntmps21
    go_wp2_with fail
    refine (value_any _ h0 h1 _).mono ?_
    rw [← HC.out]
    rintro e w' ⟨rfl, rfl⟩
    go_wp2_with fail
    refine (refScalar_any _ _).mono ?_
    rw [HS.out]
    rintro e w' ⟨rfl, rfl⟩
    go_wp2_with fail
    refine (refBytes_any _ hbd.1 hbd.2 _).mono ?_
    rintro e w1 ⟨⟨t, rfl, ht⟩, hB⟩
    have HT : Hid (bn t = enc c) := ht
    clear ht
    go_wp2
    go_ret
    exact ⟨ret_bool (by unfold wholeR; rw [← HC.out, HS.out, ← HT.out, ← str_eq_bn]; rfl), hB⟩
end Go.Proofs.Ytnkbfpmaifgenaa.U
