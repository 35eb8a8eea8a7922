/- The contracts of the document's own answer (package portcullisref01): value, whole, begins; The contract of the document's own begins; The contract of the document's own Next: it answers what stands at the front; The document's bad, plain, ends, digit. -/
import Derived.Test.YtphkdagapoonjaaGreatDoorZLPX
import Derived.RegionTactic
import Derived.Deep.QuietTactic
import Derived.BigQuiet
import Derived.Test.YtphkdagapoonjaaGreatDoorZLXE
import Derived.Test.YtphkdagapoonjaaGreatDoorZFO
namespace Go.Proofs.YtphkdagapoonjaaGreatDoor.U
open Go.RowKit

/-- The bytes behind the first, one by one. -/
def valF (z : Int) (l : List Int) : Int := l.foldl (fun c b => c * 64 + b - 128) z
theorem valF_snoc (z : Int) (l : List Int) (b : Int) : valF z (l ++ [b]) = valF z l * 64 + b - 128 := by simp [valF]
theorem bn_take_snoc (s : ByteArray) (k : Nat) (h : k < s.size) : ((bn s).drop 1).take k = ((bn s).drop 1).take (k - 1) ++ (if 1 ≤ k then [(s[k].toNat : Int)] else []) := by
  by_cases hk : 1 ≤ k
  · rw [if_pos hk]
    obtain ⟨m, rfl⟩ : ∃ m, k = m + 1 := ⟨k - 1, by omega⟩
    have hm : m < ((bn s).drop 1).length := by rw [List.length_drop, bn_length]; omega
    rw [List.take_succ_eq_append_getElem hm, Nat.add_sub_cancel]
    congr 2
    rw [List.getElem_drop]
    simp only [bn, List.getElem_map, Nat.add_comm 1 m]
    rfl
  · have : k = 0 := by omega
    subst this; simp
theorem four (s : ByteArray) (m : Nat) (hm : s.size = m) (h0 : 0 < s.size) : bn s = (s[0].toNat : Int) :: ((bn s).drop 1).take (m - 1) := by
  rw [List.take_of_length_le (by rw [List.length_drop, bn_length]; omega)]
  exact bn_cons s h0

set_option maxRecDepth 100000 in
set_option maxHeartbeats 1000000 in
theorem value1 (s : ByteArray) (hm : s.size = 1) (w : World) :
    Calls Tryz.prog 64 #[.string s] w fun e w' => e = .returned (.int .i32 (valR (bn s))) ∧ w' = w := by
  have hp : 0 < s.size := by omega
  have HM : Hid (s.size = 1) := hm
  have hV : Hid (valR (bn s) = valF ((s[0].toNat : Int) - 0) (((bn s).drop 1).take (1 - 1))) := by
    show _ = _
    have hl : (((bn s).drop 1).take (1 - 1)).length = 1 - 1 := by rw [List.length_take, List.length_drop, bn_length]; omega
    rw [four s 1 hm hp]
    simp only [List.drop_succ_cons, List.drop_zero]
    generalize ((bn s).drop 1).take (1 - 1) = r at hl ⊢
    obtain rfl := List.length_eq_zero_iff.1 hl
    simp [valR, valF]
  have hz1 : 1 ≤ s.size := by omega
  have hz2 : s.size ≤ 1 := by omega
  have hb0 : (s[0].toNat : Int) ≤ 255 := by have := s[0].toNat_lt; omega
  clear hm
  have g2 : ((s.size : Int) == 2) = false := by simp; omega
  have g3 : ((s.size : Int) == 3) = false := by simp; omega
  have g4 : ((s.size : Int) == 4) = false := by simp; omega
  go_enter Tryz.func64, Tryz.ntmps64
  go_wp2_with fail
  go_loop [3, 4] (fun c i => ∃ (k : Nat) (C : Int), 1 ≤ k ∧ k ≤ s.size ∧ i = .int .i64 k ∧ c = .int .i32 C ∧ Hid (C = valF ((s[0].toNat : Int) - 0) (((bn s).drop 1).take (k - 1))) ∧ (k = 1 ∧ -240 ≤ C ∧ C ≤ 255 ∨ k = 2 ∧ -15488 ≤ C ∧ C ≤ 16447 ∨ k = 3 ∧ -991360 ≤ C ∧ C ≤ 1052735 ∨ k = 4)) (fun _ i => s.size - (intOf i).toNat)
  case atStart => exact ⟨1, _, Nat.le_refl _, by omega, rfl, rfl, by show _ = _; simp [valF], by omega⟩
  case round =>
    obtain ⟨k, C, hk1, hk2, rfl, rfl, HC, hbd⟩ := hrel
    by_cases hlt : k < s.size
    · have hbk : (s[k].toNat : Int) ≤ 255 := by have := s[k].toNat_lt; omega
      have HT : Hid (((bn s).drop 1).take k = ((bn s).drop 1).take (k - 1) ++ [(s[k].toNat : Int)]) := by
        show _ = _; rw [bn_take_snoc s k hlt, if_pos hk1]
      go_wp2
      go_round
      case rel => exact ⟨k + 1, _, by omega, by omega, by go_num, rfl, by show _ = _; rw [Nat.add_sub_cancel, HT.out, valF_snoc, HC.out], by omega⟩
      case measure => simp [intOf]; omega
    · have hkm : k = 1 := by omega
      have HK : Hid (k = 1) := hkm
      clear hkm
      go_wp2
      go_ret
      exact ⟨ret_int (by rw [hV.out, HC.out, HK.out]), rfl⟩

set_option maxRecDepth 100000 in
set_option maxHeartbeats 1000000 in
theorem value2 (s : ByteArray) (hm : s.size = 2) (w : World) :
    Calls Tryz.prog 64 #[.string s] w fun e w' => e = .returned (.int .i32 (valR (bn s))) ∧ w' = w := by
  have hp : 0 < s.size := by omega
  have HM : Hid (s.size = 2) := hm
  have hV : Hid (valR (bn s) = valF ((s[0].toNat : Int) - 192) (((bn s).drop 1).take (2 - 1))) := by
    show _ = _
    have hl : (((bn s).drop 1).take (2 - 1)).length = 2 - 1 := by rw [List.length_take, List.length_drop, bn_length]; omega
    rw [four s 2 hm hp]
    simp only [List.drop_succ_cons, List.drop_zero]
    generalize ((bn s).drop 1).take (2 - 1) = r at hl ⊢
    match r, hl with
    | [x], _ => simp [valR, valF]
  have hz1 : 2 ≤ s.size := by omega
  have hz2 : s.size ≤ 2 := by omega
  have hb0 : (s[0].toNat : Int) ≤ 255 := by have := s[0].toNat_lt; omega
  clear hm
  have g2 : ((s.size : Int) == 2) = true := by simp; omega
  have g3 : ((s.size : Int) == 3) = false := by simp; omega
  have g4 : ((s.size : Int) == 4) = false := by simp; omega
  go_enter Tryz.func64, Tryz.ntmps64
  go_wp2_with fail
  go_loop [3, 4] (fun c i => ∃ (k : Nat) (C : Int), 1 ≤ k ∧ k ≤ s.size ∧ i = .int .i64 k ∧ c = .int .i32 C ∧ Hid (C = valF ((s[0].toNat : Int) - 192) (((bn s).drop 1).take (k - 1))) ∧ (k = 1 ∧ -240 ≤ C ∧ C ≤ 255 ∨ k = 2 ∧ -15488 ≤ C ∧ C ≤ 16447 ∨ k = 3 ∧ -991360 ≤ C ∧ C ≤ 1052735 ∨ k = 4)) (fun _ i => s.size - (intOf i).toNat)
  case atStart => exact ⟨1, _, Nat.le_refl _, by omega, rfl, rfl, by show _ = _; simp [valF], by omega⟩
  case round =>
    obtain ⟨k, C, hk1, hk2, rfl, rfl, HC, hbd⟩ := hrel
    by_cases hlt : k < s.size
    · have hbk : (s[k].toNat : Int) ≤ 255 := by have := s[k].toNat_lt; omega
      have HT : Hid (((bn s).drop 1).take k = ((bn s).drop 1).take (k - 1) ++ [(s[k].toNat : Int)]) := by
        show _ = _; rw [bn_take_snoc s k hlt, if_pos hk1]
      go_wp2
      go_round
      case rel => exact ⟨k + 1, _, by omega, by omega, by go_num, rfl, by show _ = _; rw [Nat.add_sub_cancel, HT.out, valF_snoc, HC.out], by omega⟩
      case measure => simp [intOf]; omega
    · have hkm : k = 2 := by omega
      have HK : Hid (k = 2) := hkm
      clear hkm
      go_wp2
      go_ret
      exact ⟨ret_int (by rw [hV.out, HC.out, HK.out]), rfl⟩

set_option maxRecDepth 100000 in
set_option maxHeartbeats 1000000 in
theorem value3 (s : ByteArray) (hm : s.size = 3) (w : World) :
    Calls Tryz.prog 64 #[.string s] w fun e w' => e = .returned (.int .i32 (valR (bn s))) ∧ w' = w := by
  have hp : 0 < s.size := by omega
  have HM : Hid (s.size = 3) := hm
  have hV : Hid (valR (bn s) = valF ((s[0].toNat : Int) - 224) (((bn s).drop 1).take (3 - 1))) := by
    show _ = _
    have hl : (((bn s).drop 1).take (3 - 1)).length = 3 - 1 := by rw [List.length_take, List.length_drop, bn_length]; omega
    rw [four s 3 hm hp]
    simp only [List.drop_succ_cons, List.drop_zero]
    generalize ((bn s).drop 1).take (3 - 1) = r at hl ⊢
    match r, hl with
    | [x, y], _ => simp [valR, valF]
  have hz1 : 3 ≤ s.size := by omega
  have hz2 : s.size ≤ 3 := by omega
  have hb0 : (s[0].toNat : Int) ≤ 255 := by have := s[0].toNat_lt; omega
  clear hm
  have g2 : ((s.size : Int) == 2) = false := by simp; omega
  have g3 : ((s.size : Int) == 3) = true := by simp; omega
  have g4 : ((s.size : Int) == 4) = false := by simp; omega
  go_enter Tryz.func64, Tryz.ntmps64
  go_wp2_with fail
  go_loop [3, 4] (fun c i => ∃ (k : Nat) (C : Int), 1 ≤ k ∧ k ≤ s.size ∧ i = .int .i64 k ∧ c = .int .i32 C ∧ Hid (C = valF ((s[0].toNat : Int) - 224) (((bn s).drop 1).take (k - 1))) ∧ (k = 1 ∧ -240 ≤ C ∧ C ≤ 255 ∨ k = 2 ∧ -15488 ≤ C ∧ C ≤ 16447 ∨ k = 3 ∧ -991360 ≤ C ∧ C ≤ 1052735 ∨ k = 4)) (fun _ i => s.size - (intOf i).toNat)
  case atStart => exact ⟨1, _, Nat.le_refl _, by omega, rfl, rfl, by show _ = _; simp [valF], by omega⟩
  case round =>
    obtain ⟨k, C, hk1, hk2, rfl, rfl, HC, hbd⟩ := hrel
    by_cases hlt : k < s.size
    · have hbk : (s[k].toNat : Int) ≤ 255 := by have := s[k].toNat_lt; omega
      have HT : Hid (((bn s).drop 1).take k = ((bn s).drop 1).take (k - 1) ++ [(s[k].toNat : Int)]) := by
        show _ = _; rw [bn_take_snoc s k hlt, if_pos hk1]
      go_wp2
      go_round
      case rel => exact ⟨k + 1, _, by omega, by omega, by go_num, rfl, by show _ = _; rw [Nat.add_sub_cancel, HT.out, valF_snoc, HC.out], by omega⟩
      case measure => simp [intOf]; omega
    · have hkm : k = 3 := by omega
      have HK : Hid (k = 3) := hkm
      clear hkm
      go_wp2
      go_ret
      exact ⟨ret_int (by rw [hV.out, HC.out, HK.out]), rfl⟩

set_option maxRecDepth 100000 in
set_option maxHeartbeats 1000000 in
theorem value4 (s : ByteArray) (hm : s.size = 4) (w : World) :
    Calls Tryz.prog 64 #[.string s] w fun e w' => e = .returned (.int .i32 (valR (bn s))) ∧ w' = w := by
  have hp : 0 < s.size := by omega
  have HM : Hid (s.size = 4) := hm
  have hV : Hid (valR (bn s) = valF ((s[0].toNat : Int) - 240) (((bn s).drop 1).take (4 - 1))) := by
    show _ = _
    have hl : (((bn s).drop 1).take (4 - 1)).length = 4 - 1 := by rw [List.length_take, List.length_drop, bn_length]; omega
    rw [four s 4 hm hp]
    simp only [List.drop_succ_cons, List.drop_zero]
    generalize ((bn s).drop 1).take (4 - 1) = r at hl ⊢
    match r, hl with
    | [x, y, z], _ => simp [valR, valF]
  have hz1 : 4 ≤ s.size := by omega
  have hz2 : s.size ≤ 4 := by omega
  have hb0 : (s[0].toNat : Int) ≤ 255 := by have := s[0].toNat_lt; omega
  clear hm
  have g2 : ((s.size : Int) == 2) = false := by simp; omega
  have g3 : ((s.size : Int) == 3) = false := by simp; omega
  have g4 : ((s.size : Int) == 4) = true := by simp; omega
  go_enter Tryz.func64, Tryz.ntmps64
  go_wp2_with fail
  go_loop [3, 4] (fun c i => ∃ (k : Nat) (C : Int), 1 ≤ k ∧ k ≤ s.size ∧ i = .int .i64 k ∧ c = .int .i32 C ∧ Hid (C = valF ((s[0].toNat : Int) - 240) (((bn s).drop 1).take (k - 1))) ∧ (k = 1 ∧ -240 ≤ C ∧ C ≤ 255 ∨ k = 2 ∧ -15488 ≤ C ∧ C ≤ 16447 ∨ k = 3 ∧ -991360 ≤ C ∧ C ≤ 1052735 ∨ k = 4)) (fun _ i => s.size - (intOf i).toNat)
  case atStart => exact ⟨1, _, Nat.le_refl _, by omega, rfl, rfl, by show _ = _; simp [valF], by omega⟩
  case round =>
    obtain ⟨k, C, hk1, hk2, rfl, rfl, HC, hbd⟩ := hrel
    by_cases hlt : k < s.size
    · have hbk : (s[k].toNat : Int) ≤ 255 := by have := s[k].toNat_lt; omega
      have HT : Hid (((bn s).drop 1).take k = ((bn s).drop 1).take (k - 1) ++ [(s[k].toNat : Int)]) := by
        show _ = _; rw [bn_take_snoc s k hlt, if_pos hk1]
      go_wp2
      go_round
      case rel => exact ⟨k + 1, _, by omega, by omega, by go_num, rfl, by show _ = _; rw [Nat.add_sub_cancel, HT.out, valF_snoc, HC.out], by omega⟩
      case measure => simp [intOf]; omega
    · have hkm : k = 4 := by omega
      have HK : Hid (k = 4) := hkm
      clear hkm
      go_wp2
      go_ret
      exact ⟨ret_int (by rw [hV.out, HC.out, HK.out]), rfl⟩

theorem value_any (s : ByteArray) (h0 : 1 ≤ s.size) (h1 : s.size ≤ 4) (w : World) :
    Calls Tryz.prog 64 #[.string s] w fun e w' => e = .returned (.int .i32 (valR (bn s))) ∧ w' = w := by
  rcases (show s.size = 1 ∨ s.size = 2 ∨ s.size = 3 ∨ s.size = 4 by omega) with h | h | h | h
  · exact value1 s h w
  · exact value2 s h w
  · exact value3 s h w
  · exact value4 s h w

theorem str_eq_bn (t s : ByteArray) : (t.toList == s.toList) = decide (bn t = bn s) := by
  rw [Bool.eq_iff_iff, beq_iff_eq, decide_eq_true_eq, ByteArray.toList_eq, ByteArray.toList_eq]
  constructor
  · intro h; unfold bn; rw [h]
  · intro h; rw [bn_inj h]

set_option maxRecDepth 100000 in
set_option maxHeartbeats 1000000 in
theorem whole_any (s : ByteArray) (h0 : 1 ≤ s.size) (h1 : s.size ≤ 4) (w : World) :
    Calls Tryz.prog 63 #[.string s] w fun e w' => e = .returned (.bool (wholeR (bn s))) ∧ Below w.heap.size w w' := by
  obtain ⟨c, hc⟩ : ∃ c, c = valR (bn s) := ⟨_, rfl⟩
  have HC : Hid (c = valR (bn s)) := hc
  clear hc
  cases hs : scal c with
  | false =>
    have HS : Hid (scal c = false) := hs
    clear hs
    go_enter Tryz.func63, Tryz.ntmps63
    go_wp2_with fail
    refine (value_any _ h0 h1 _).mono ?_
    rw [← HC.out]
    rintro e w' ⟨rfl, rfl⟩
    go_wp2_with fail
    refine (refScalar_any _ _).mono ?_
    rw [HS.out]
    rintro e w' ⟨rfl, rfl⟩
    go_wp2
    go_ret
    exact ⟨ret_bool (by unfold wholeR; rw [← HC.out, HS.out]; rfl), Below.refl _ _⟩
  | true =>
    have hbd := scal_bd hs
    have HS : Hid (scal c = true) := hs
    clear hs
    go_enter Tryz.func63, Tryz.ntmps63
    go_wp2_with fail
    refine (value_any _ h0 h1 _).mono ?_
    rw [← HC.out]
    rintro e w' ⟨rfl, rfl⟩
    go_wp2_with fail
    refine (refScalar_any _ _).mono ?_
    rw [HS.out]
    rintro e w' ⟨rfl, rfl⟩
    go_wp2_with fail
    refine (refBytes_any _ hbd.1 hbd.2 _).mono ?_
    rintro e w1 ⟨⟨t, rfl, ht⟩, hB⟩
    have HT : Hid (bn t = enc c) := ht
    clear ht
    go_wp2
    go_ret
    exact ⟨ret_bool (by unfold wholeR; rw [← HC.out, HS.out, ← HT.out, ← str_eq_bn]; rfl), hB⟩
end Go.Proofs.YtphkdagapoonjaaGreatDoor.U
namespace Go.Proofs.YtphkdagapoonjaaGreatDoor.U
open Go.RowKit

theorem bn_two (s : ByteArray) (hm : s.size = 2) : bn s = [((s[0]'(by omega)).toNat : Int), ((s[1]'(by omega)).toNat : Int)] := by
  rw [bn_cons s (by omega), bn_drop s 1 (by omega), bn_drop_nil s 2 (by omega)]
theorem bn_three (s : ByteArray) (hm : s.size = 3) : bn s = [((s[0]'(by omega)).toNat : Int), ((s[1]'(by omega)).toNat : Int), ((s[2]'(by omega)).toNat : Int)] := by
  rw [bn_cons s (by omega), bn_drop s 1 (by omega), bn_drop s 2 (by omega), bn_drop_nil s 3 (by omega)]

/-- What begins finds of the second byte, at a first one. -/
def secB (n : Int) (a b : Int) : Bool := if 194 ≤ a ∧ a ≤ 223 then decide (n = 2 ∧ 128 ≤ b ∧ b ≤ 191) else decide (224 ≤ a ∧ a ≤ 244 ∧ lowOf a ≤ b ∧ b ≤ highOf a)
theorem beg_two (a b : Int) : begL [a, b] = secB 2 a b := by
  unfold secB
  by_cases h : 194 ≤ a ∧ a ≤ 223
  · rw [if_pos h, Bool.eq_iff_iff]; simp only [begL, decide_eq_true_eq]
    exact ⟨fun hh => ⟨trivial, by omega⟩, fun hh => by omega⟩
  · rw [if_neg h, Bool.eq_iff_iff]; simp only [begL, decide_eq_true_eq]; omega
theorem beg_three (a b c : Int) : begL [a, b, c] = (secB 3 a b && decide (128 ≤ c ∧ c ≤ 191)) := by
  unfold secB
  by_cases h : 194 ≤ a ∧ a ≤ 223
  · rw [if_pos h, Bool.eq_iff_iff]; simp only [begL, decide_eq_true_eq, Bool.and_eq_true]; omega
  · rw [if_neg h, Bool.eq_iff_iff]; simp only [begL, decide_eq_true_eq, Bool.and_eq_true]; omega

set_option maxRecDepth 100000 in
set_option maxHeartbeats 2000000 in
theorem begins2 (s : ByteArray) (hm : s.size = 2) (w : World) :
    Calls Tryz.prog 65 #[.string s] w fun e w' => e = .returned (.bool (begL (bn s))) ∧ ∃ n, w' = w.drewN n := by
  have hp0 : 0 < s.size := by omega
  have hp1 : 1 < s.size := by omega
  have HB : Hid (bn s = [(s[0].toNat : Int), (s[1].toNat : Int)]) := bn_two s hm
  have g2 : ((s.size : Int) == 2) = true := by simp; omega
  have b0 : (s[0].toNat : Int) ≤ 255 := by have := s[0].toNat_lt; omega
  have b1 : (s[1].toNat : Int) ≤ 255 := by have := s[1].toNat_lt; omega
  have z1 : (1 : Int) < (s.size : Int) := by omega
  clear hm
  go_enter Tryz.func65, Tryz.ntmps65
  go_wp2_with fail
  go_quiet (fail)
  go_wp2
  all_goals (go_ret; refine ⟨ret_bool ?_, _, rfl⟩; rw [HB.out, beg_two]; clear HB; simp only [beq_iff_eq, beq_eq_false_iff_ne] at *; unfold secB lowOf highOf; (repeat' split) <;> first | (simp; omega) | (simp; done) | (rw [Bool.eq_iff_iff]; simp; omega) | omega)

set_option maxRecDepth 100000 in
set_option maxHeartbeats 4000000 in
theorem begins3 (s : ByteArray) (hm : s.size = 3) (w : World) :
    Calls Tryz.prog 65 #[.string s] w fun e w' => e = .returned (.bool (begL (bn s))) ∧ ∃ n, w' = w.drewN n := by
  have hp0 : 0 < s.size := by omega
  have hp1 : 1 < s.size := by omega
  have hp2 : 2 < s.size := by omega
  have HB : Hid (bn s = [(s[0].toNat : Int), (s[1].toNat : Int), (s[2].toNat : Int)]) := bn_three s hm
  have g2 : ((s.size : Int) == 2) = false := by simp; omega
  have b0 : (s[0].toNat : Int) ≤ 255 := by have := s[0].toNat_lt; omega
  have b1 : (s[1].toNat : Int) ≤ 255 := by have := s[1].toNat_lt; omega
  have z1 : (1 : Int) < (s.size : Int) := by omega
  have z2 : (2 : Int) < (s.size : Int) := by omega
  clear hm
  go_enter Tryz.func65, Tryz.ntmps65
  go_wp2_with fail
  go_quiet (fail)
  go_wp2
  all_goals (go_ret; refine ⟨ret_bool ?_, _, rfl⟩; rw [HB.out, beg_three]; clear HB; simp only [beq_iff_eq, beq_eq_false_iff_ne] at *; unfold secB lowOf highOf; (repeat' split) <;> first | (simp; omega) | (simp; done) | (rw [Bool.eq_iff_iff]; simp; omega) | omega)

theorem begins_any (s : ByteArray) (h0 : 2 ≤ s.size) (h1 : s.size ≤ 3) (w : World) :
    Calls Tryz.prog 65 #[.string s] w fun e w' => e = .returned (.bool (begL (bn s))) ∧ ∃ n, w' = w.drewN n := by
  by_cases h : s.size = 2
  · exact begins2 s h w
  · exact begins3 s (by omega) w
end Go.Proofs.YtphkdagapoonjaaGreatDoor.U
namespace Go.Proofs.YtphkdagapoonjaaGreatDoor.U
open Go.RowKit

theorem bn_first (s : ByteArray) (n : Nat) : bn (s.extract 0 n) = (bn s).take n := by
  unfold bn
  rw [Lib.extract_data]
  simp [List.map_take]
theorem nx_four (l : List Int) (h : l ≠ []) (hl : Bytes l) : (nx l).2.1 ≤ 4 := by
  rcases nx_inv l h hl with ⟨a, t, _, h0, h1, e⟩ | ⟨a, b, t, _, h1, h2, h3, h4, e⟩ | ⟨a, b, c, t, _, h1, h2, h3, h4, h5, h6, e⟩ | ⟨a, b, c, d, t, _, h1, h2, h3, h4, h5, h6, h7, h8, e⟩ | ⟨n, _, _, e⟩
  all_goals (rw [e]; simp only; omega)
/-- No beginning is whole: then nothing is. -/
theorem not_whole (l : List Int) (hne : l ≠ []) (hl : Bytes l) (k : Nat) (hk : ¬ (k ≤ 4 ∧ k ≤ l.length)) (h : ∀ j, 1 ≤ j → j < k → wholeR (l.take j) = false) : (nx l).2.2 = false := by
  cases hw : (nx l).2.2 with
  | false => rfl
  | true =>
    have hn := nx_n l hne
    have h4 := nx_four l hne hl
    have := (whole_iff l hne hl (nx l).2.1 hn.1 hn.2).2 hw rfl
    rw [h _ hn.1 (by omega)] at this
    cases this

set_option maxRecDepth 100000 in
set_option maxHeartbeats 2000000 in
theorem refNext_any (s : ByteArray) (w : World) (hs : s.size ≤ 9223372036854775807) :
    Calls Tryz.prog 48 #[.string s] w fun e w' => e = .returned (.tuple #[.int .i32 (nx (bn s)).1, .int .i64 (nx (bn s)).2.1, .bool (nx (bn s)).2.2]) ∧ Below w.heap.size w w' := by
  by_cases hp : 0 < s.size
  · have he : s.toList.isEmpty = false := isEmpty_false s hp
    have hne : Hid (bn s ≠ []) := fun h => by have := congrArg List.length h; rw [bn_length, List.length_nil] at this; omega
    have hlen : Hid ((bn s).length = s.size) := bn_length s
    go_enter Tryz.func48, Tryz.ntmps48
    go_wp2_with fail
    go_loopw [5] (fun i wr => ∃ k : Nat, 1 ≤ k ∧ k ≤ 5 ∧ k ≤ s.size + 1 ∧ i = .int .i64 k ∧ Hid (∀ j, 1 ≤ j → j < k → wholeR ((bn s).take j) = false) ∧ Below w.heap.size w wr) (fun i _ => 5 - (intOf i).toNat)
    case atStart => exact ⟨1, by omega, by omega, by omega, rfl, fun j h1 h2 => by omega, Below.refl _ _⟩
    case round =>
      obtain ⟨k, hk1, hk5, hks, rfl, HW, hB⟩ := hrel
      by_cases hin : k ≤ 4 ∧ k ≤ s.size
      · obtain ⟨hk4, hkl⟩ := hin
        have hsz : (s.extract 0 k).size = k := by simp; omega
        have h1' : Hid (1 ≤ (s.extract 0 k).size ∧ (s.extract 0 k).size ≤ 4) := by constructor <;> omega
        clear hsz
        cases hw : wholeR ((bn s).take k) with
        | true =>
          have HX : Hid (nx (bn s) = (valR ((bn s).take k), k, true)) := (whole_iff _ hne.out (bn_bytes s) k hk1 (by rw [hlen.out]; exact hkl)).1 hw
          have HK : Hid (wholeR ((bn s).take k) = true) := hw
          clear hw
          go_wp2_with fail
          refine (whole_any _ h1'.out.1 h1'.out.2 _).mono ?_
          rw [bn_first, HK.out]
          rintro e w1 ⟨rfl, hB1⟩
          go_wp2_with fail
          refine (value_any _ h1'.out.1 h1'.out.2 _).mono ?_
          rw [bn_first]
          rintro e w2 ⟨rfl, rfl⟩
          go_wp2
          go_ret3
          exact ⟨by rw [HX.out]; rfl, hB.trans (hB1.mono hB.size)⟩
        | false =>
          have HK : Hid (wholeR ((bn s).take k) = false) := hw
          clear hw
          go_wp2_with fail
          refine (whole_any _ h1'.out.1 h1'.out.2 _).mono ?_
          rw [bn_first, HK.out]
          rintro e w1 ⟨rfl, hB1⟩
          have B1 := hB.trans (hB1.mono hB.size)
          clear hB hB1
          go_wp2
          go_roundw
          case rel => exact ⟨k + 1, by omega, by omega, by omega, by go_num, fun j g1 g2 => by
            by_cases hj : j < k
            · exact HW.out j g1 hj
            · obtain rfl : j = k := by omega
              exact HK.out, B1⟩
          case measure => simp [intOf]; omega
      · have hnw := not_whole _ hne.out (bn_bytes s) k (by rw [hlen.out]; exact hin) HW.out
        have hF := nx_fail _ hne.out (bn_bytes s) hnw
        have hnn := nx_n _ hne.out
        rw [hlen.out] at hF hnn
        clear HW hnw
        obtain ⟨N, hN⟩ : ∃ N, N = (nx (bn s)).2.1 := ⟨_, rfl⟩
        rw [← hN] at hF hnn
        obtain ⟨hX, hN3, hbeg, hend⟩ := hF
        have HX : Hid (nx (bn s) = (65533, N, false)) := hX
        have HBG : Hid (∀ k, 1 ≤ k → k < N → begL ((bn s).take (k + 1)) = true) := hbeg
        have HED : Hid (N < s.size → N < 3 → begL ((bn s).take (N + 1)) = false) := hend
        clear hX hbeg hend hN
        have hor : (k ≤ 4 ∧ decide (k ≤ s.size) = false ∧ decide ((k : Int) ≤ (s.size : Int)) = false) ∨ (¬ k ≤ 4 ∧ decide ((k : Int) ≤ 4) = false ∧ decide (k ≤ 4) = false) := by
          by_cases hk4 : k ≤ 4
          · exact .inl ⟨hk4, decide_eq_false (by omega), decide_eq_false (by omega)⟩
          · exact .inr ⟨hk4, decide_eq_false (by omega), decide_eq_false (by omega)⟩
        rcases hor with ⟨hk4, hq1, hq2⟩ | ⟨hk4, hq1, hq2⟩
        all_goals
          go_wp2_with fail
          go_loopw [6] (fun i wr => ∃ k : Nat, 1 ≤ k ∧ k ≤ N ∧ i = .int .i64 k ∧ Below w.heap.size w wr) (fun i _ => N - (intOf i).toNat)
          case atStart => exact ⟨1, by omega, by omega, rfl, hB⟩
          case round =>
            rename_i wr2 _
            clear hB
            obtain ⟨m, hm1, hm2, rfl, hB⟩ := hrel
            by_cases hlt : m < N
            · have hsz : Hid (2 ≤ (s.extract 0 (m + 1)).size ∧ (s.extract 0 (m + 1)).size ≤ 3) := by
                have : (s.extract 0 (m + 1)).size = m + 1 := by simp; omega
                constructor <;> omega
              have hml : m < s.size := by omega
              have hm3 : m < 3 := by omega
              go_wp2_with fail
              refine (begins_any _ hsz.out.1 hsz.out.2 _).mono ?_
              rw [bn_first, HBG.out m hm1 hlt]
              rintro e w1 ⟨rfl, n, rfl⟩
              go_wp2
              go_roundw
              case rel => exact ⟨m + 1, by omega, by omega, by go_num, hB.trans (below_drewN _ _ _)⟩
              case measure => simp [intOf]; omega
            · have hmN : m = N := by omega
              rw [← hmN] at HX HED
              clear hmN
              by_cases hml : m < s.size
              · by_cases hm3 : m < 3
                · have hsz : Hid (2 ≤ (s.extract 0 (m + 1)).size ∧ (s.extract 0 (m + 1)).size ≤ 3) := by
                    have : (s.extract 0 (m + 1)).size = m + 1 := by simp; omega
                    constructor <;> omega
                  go_wp2_with fail
                  refine (begins_any _ hsz.out.1 hsz.out.2 _).mono ?_
                  rw [bn_first, HED.out hml hm3]
                  rintro e w1 ⟨rfl, n, rfl⟩
                  go_wp2
                  go_ret3
                  exact ⟨by rw [HX.out]; rfl, hB.trans (below_drewN _ _ _)⟩
                · try (exfalso; simp only [decide_eq_false_iff_not] at hq1; omega)
                  all_goals
                    go_wp2
                    go_ret3
                    exact ⟨by rw [HX.out]; rfl, hB⟩
              · go_wp2
                go_ret3
                exact ⟨by rw [HX.out]; rfl, hB⟩
  · have he : s.toList.isEmpty = true := isEmpty_true s (by omega)
    have hx : Hid (nx (bn s) = (0, 0, false)) := nx_nil s (by omega)
    go_enter Tryz.func48, Tryz.ntmps48
    go_wp2
    go_ret3
    exact ⟨by rw [hx.out]; rfl, Below.refl _ _⟩
end Go.Proofs.YtphkdagapoonjaaGreatDoor.U
namespace Go.Proofs.YtphkdagapoonjaaGreatDoor.Lx
open Go.RowKit
open Go.Proofs.YtphkdagapoonjaaGreatDoor.F (bn bn_length bn_append bn_inj bn_get byte_bd hid bn_extract isEmpty_false isEmpty_true str_eq same_eq)
open Go.Proofs.YtphkdagapoonjaaGreatDoor.U (nx enc encs scal Bytes)
set_option linter.unusedVariables false

theorem bytes_bn (s : ByteArray) : Bytes (bn s) := U.bn_bytes s
/-- A place, or -1. -/
def opt : Option Nat → Int
  | none => -1
  | some k => k
theorem bdF_fuel : ∀ (f g : Nat) (l : List Int) (k : Nat), l.length ≤ f → l.length ≤ g → bdF f l k = bdF g l k
  | f, g, [], k, _, _ => by cases f <;> cases g <;> rfl
  | 0, g, c :: l, k, h, _ => by simp at h
  | f + 1, 0, c :: l, k, _, h => by simp at h
  | f + 1, g + 1, c :: l, k, hf, hg => by
    have hn := U.nx_n (c :: l) (by simp)
    rw [bdF, bdF, if_neg (show ¬ (c :: l = []) by simp), if_neg (show ¬ (c :: l = []) by simp)]
    split
    · exact bdF_fuel f g _ _ (by rw [List.length_drop]; simp only [List.length_cons] at *; omega) (by rw [List.length_drop]; simp only [List.length_cons] at *; omega)
    · rfl
theorem bd_step {l : List Int} {i : Nat} (hi : i < l.length) : bdF (l.length - i) (l.drop i) i = if (nx (l.drop i)).2.2 = true then bdF (l.length - (i + (nx (l.drop i)).2.1)) (l.drop (i + (nx (l.drop i)).2.1)) (i + (nx (l.drop i)).2.1) else some i := by
  have hne : l.drop i ≠ [] := fun h => by
    have := congrArg List.length h
    rw [List.length_drop, List.length_nil] at this
    omega
  have hn := U.nx_n _ hne
  rw [List.length_drop] at hn
  obtain ⟨f, hf⟩ : ∃ f, l.length - i = f + 1 := ⟨l.length - i - 1, by omega⟩
  rw [hf, bdF, if_neg hne]
  split
  · rw [List.drop_drop]
    exact bdF_fuel _ _ _ _ (by rw [List.length_drop]; omega) (by rw [List.length_drop]; omega)
  · rfl
set_option maxRecDepth 100000 in
set_option maxHeartbeats 4000000 in
theorem rbad_any (s : ByteArray) (hs : s.size ≤ 1000000) (w : World) : Calls Tryz.prog 31 #[.string s] w fun e W' => e = .returned (.int .i64 (opt (bd (bn s)))) ∧ Below w.heap.size w W' := by
  have HNX := hid (fun i W => U.refNext_any (s.extract i s.size) W (by simp; omega))
  have HBE : Hid (∀ i, U.bn (s.extract i s.size) = (bn s).drop i) := fun i => bn_extract s i
  have HST : Hid (∀ i, i < s.size → bdF (s.size - i) ((bn s).drop i) i = if (nx ((bn s).drop i)).2.2 = true then bdF (s.size - (i + (nx ((bn s).drop i)).2.1)) ((bn s).drop (i + (nx ((bn s).drop i)).2.1)) (i + (nx ((bn s).drop i)).2.1) else some i) := fun i hi => by
    have := bd_step (l := bn s) (i := i) (by rw [bn_length]; exact hi)
    rw [bn_length] at this
    exact this
  have HNN : Hid (∀ i, i < s.size → 1 ≤ (nx ((bn s).drop i)).2.1 ∧ (nx ((bn s).drop i)).2.1 ≤ s.size - i) := fun i hi => by
    have h := U.nx_n ((bn s).drop i) (fun h => by
      have := congrArg List.length h
      rw [List.length_drop, List.length_nil, bn_length] at this
      omega)
    rw [List.length_drop, bn_length] at h
    exact h
  have H0 : Hid (bd (bn s) = bdF (s.size - 0) ((bn s).drop 0) 0) := by show _ = _; unfold bd; rw [bn_length]; rfl
  obtain ⟨R, hR⟩ : ∃ R, bd (bn s) = R := ⟨_, rfl⟩
  rw [hR] at H0 ⊢
  clear hR
  go_enter Tryz.func31, Tryz.ntmps31
  go_wp2_with fail
  go_loopw [3] (fun vi wr => ∃ i : Nat, i ≤ s.size ∧ vi = .int .i64 (i : Int) ∧ Hid (R = bdF (s.size - i) ((bn s).drop i) i) ∧ Hid (Below w.heap.size w wr)) (fun vi _ => s.size - (intOf vi).toNat)
  case atStart => exact ⟨0, Nat.zero_le _, rfl, H0, Below.refl _ _⟩
  case round =>
    obtain ⟨i, hi, rfl, HR, HB⟩ := hrel
    by_cases hlt : i < s.size
    · have hltz : (i : Int) < (s.size : Int) := by omega
      have HN := hid (HNX.out i wr)
      rw [HBE.out] at HN
      obtain ⟨hn1, hn2⟩ := HNN.out i hlt
      have HSS := hid (HST.out i hlt)
      obtain ⟨x, hx⟩ : ∃ x, nx ((bn s).drop i) = x := ⟨_, rfl⟩
      rw [hx] at HN hn1 hn2 HSS
      obtain ⟨c, n, b⟩ := x
      simp only at HN hn1 hn2 HSS
      clear hx
      cases b with
      | true =>
        have HR2 := hid (HR.out.trans (HSS.out.trans (if_pos rfl)))
        clear HSS HR
        go_wp2_with (go_at_call 48; refine HN.out.mono ?_; rintro e w2 ⟨rfl, B2⟩)
        go_roundw
        case rel => exact ⟨i + n, by omega, by go_num, HR2, HB.out.trans (B2.mono HB.out.size)⟩
        case measure => simp [intOf]; omega
      | false =>
        have HR2 := hid (HR.out.trans (HSS.out.trans (if_neg (by simp))))
        clear HSS HR
        go_wp2_with (go_at_call 48; refine HN.out.mono ?_; rintro e w2 ⟨rfl, B2⟩)
        go_ret
        exact ⟨by rw [HR2.out]; rfl, HB.out.trans (B2.mono HB.out.size)⟩
    · have hltz : ¬ (i : Int) < (s.size : Int) := by omega
      have HR2 : Hid (R = none) := by
        show _ = _
        rw [HR.out, show s.size - i = 0 by omega]; rfl
      clear HR
      go_wp2
      go_ret
      exact ⟨by rw [HR2.out]; rfl, HB.out⟩
theorem pb_step {l : List Int} {i : Nat} (hi : i < l.length) : (l.drop i).findIdx? (fun c => decide (c < 32 ∧ c ≠ 9 ∨ c = 127)) = if l[i]?.getD 0 < 32 ∧ l[i]?.getD 0 ≠ 9 ∨ l[i]?.getD 0 = 127 then some 0 else ((l.drop (i + 1)).findIdx? (fun c => decide (c < 32 ∧ c ≠ 9 ∨ c = 127))).map (· + 1) := by
  rw [List.drop_eq_getElem_cons hi, List.findIdx?_cons, List.getElem?_eq_getElem hi]
  simp only [Option.getD_some, decide_eq_true_eq]
/-- The first bad byte from i on. -/
def pbi (l : List Int) (i : Nat) : Option Nat := ((l.drop i).findIdx? (fun c => decide (c < 32 ∧ c ≠ 9 ∨ c = 127))).map (· + i)
theorem pbi_step {l : List Int} {i : Nat} (hi : i < l.length) : pbi l i = if l[i]?.getD 0 < 32 ∧ l[i]?.getD 0 ≠ 9 ∨ l[i]?.getD 0 = 127 then some i else pbi l (i + 1) := by
  unfold pbi
  rw [pb_step hi]
  split
  · simp
  · rw [Option.map_map]
    congr 1
    funext x
    simp; omega
theorem pbi_end {l : List Int} {i : Nat} (hi : l.length ≤ i) : pbi l i = none := by
  unfold pbi
  rw [List.drop_eq_nil_of_le hi]; rfl
theorem pbi_zero (l : List Int) : pbi l 0 = pb l := by
  unfold pbi pb
  rw [List.drop_zero]
  simp
set_option maxRecDepth 100000 in
set_option maxHeartbeats 4000000 in
theorem rplain_any (s : ByteArray) (hs : s.size ≤ 1000000) (w : World) : Calls Tryz.prog 40 #[.string s] w fun e W' => e = .returned (.int .i64 (opt (pb (bn s)))) ∧ Below w.heap.size w W' := by
  rw [← pbi_zero]
  have HST : Hid (∀ i, i < s.size → pbi (bn s) i = if (bn s)[i]?.getD 0 < 32 ∧ (bn s)[i]?.getD 0 ≠ 9 ∨ (bn s)[i]?.getD 0 = 127 then some i else pbi (bn s) (i + 1)) := fun i hi => pbi_step (by rw [bn_length]; exact hi)
  have HEN : Hid (∀ i, s.size ≤ i → pbi (bn s) i = none) := fun i hi => pbi_end (by rw [bn_length]; exact hi)
  have HGT := hid (bn_get s)
  have HBY := hid (fun j (h : j < s.size) => byte_bd (s := s) h)
  obtain ⟨R, hR⟩ : ∃ R, pbi (bn s) 0 = R := ⟨_, rfl⟩
  rw [hR]
  have H0 := hid hR
  clear hR
  go_enter Tryz.func40, Tryz.ntmps40
  go_wp2_with fail
  go_loopw [3] (fun vi wr => ∃ i : Nat, i ≤ s.size ∧ vi = .int .i64 (i : Int) ∧ Hid (pbi (bn s) i = R) ∧ Hid (Below w.heap.size w wr)) (fun vi _ => s.size - (intOf vi).toNat)
  case atStart => exact ⟨0, Nat.zero_le _, rfl, H0, Below.refl _ _⟩
  case round =>
    obtain ⟨i, hi, rfl, HR, HB⟩ := hrel
    by_cases hlt : i < s.size
    · have hltz : (i : Int) < (s.size : Int) := by omega
      have hg := (HGT.out i hlt).symm
      obtain ⟨q0, q1⟩ := HBY.out i hlt
      have HSS := hid (HST.out i hlt)
      obtain ⟨y, hy⟩ : ∃ y, (bn s)[i]?.getD 0 = y := ⟨_, rfl⟩
      rw [hy] at hg q0 q1 HSS
      clear hy HGT HBY HST HEN
      have hw3 : (y < 32 ∧ (y != 9) = true ∧ (y == 127) = false ∧ y ≠ 9) ∨ (y < 32 ∧ (y != 9) = false ∧ (y == 127) = false) ∨ (¬ y < 32 ∧ (y == 127) = true) ∨ (¬ y < 32 ∧ (y == 127) = false) := by
        simp only [beq_eq_false_iff_ne, beq_iff_eq, bne_iff_ne, bne_eq_false_iff_eq]; omega
      have HWK : Hid (∀ r, (if y < 32 ∧ y ≠ 9 ∨ y = 127 then some i else pbi (bn s) (i + 1)) = r → r = R) := fun r h => by rw [← h, ← HSS.out]; exact HR.out
      clear HSS HR
      rcases hw3 with ⟨a, b, c, d⟩ | ⟨a, b, c⟩ | ⟨a, c⟩ | ⟨a, c⟩
      · have HE := hid (HWK.out _ (if_pos (.inl ⟨a, d⟩)))
        clear HWK d
        go_wp2
        go_ret
        exact ⟨by rw [← HE.out]; rfl, HB.out⟩
      · have HE := hid (HWK.out _ (if_neg (by simp only [bne_eq_false_iff_eq, beq_eq_false_iff_ne] at b c; omega)))
        clear HWK
        go_wp2
        go_roundw
        case rel => exact ⟨i + 1, by omega, by go_num, HE, HB⟩
        case measure => simp [intOf]; omega
      · have HE := hid (HWK.out _ (if_pos (.inr (by simpa using c))))
        clear HWK
        go_wp2
        go_ret
        exact ⟨by rw [← HE.out]; rfl, HB.out⟩
      · have HE := hid (HWK.out _ (if_neg (by simp only [beq_eq_false_iff_ne] at c; omega)))
        clear HWK
        go_wp2
        go_roundw
        case rel => exact ⟨i + 1, by omega, by go_num, HE, HB⟩
        case measure => simp [intOf]; omega
    · have hltz : ¬ (i : Int) < (s.size : Int) := by omega
      have HE := hid (HR.out.symm.trans (HEN.out i (by omega)))
      clear HR
      go_wp2
      go_ret
      exact ⟨by rw [HE.out]; rfl, HB.out⟩
end Go.Proofs.YtphkdagapoonjaaGreatDoor.Lx
