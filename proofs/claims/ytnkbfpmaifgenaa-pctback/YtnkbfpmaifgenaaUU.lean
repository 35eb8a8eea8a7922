/- The contract of the document's own begins. -/
import Derived.Test.YtnkbfpmaifgenaaUZ
import Derived.Deep.QuietTactic
import Derived.BigQuiet
namespace Go.Proofs.Ytnkbfpmaifgenaa.U
open Go.RowKit

theorem bn_two (s : ByteArray) (hm : s.size = 2) : bn s = [((s[0]'(by omega)).toNat : Int), ((s[1]'(by omega)).toNat : Int)] := by
  rw [bn_cons s (by omega), bn_drop s 1 (by omega), bn_drop_nil s 2 (by omega)]
theorem bn_three (s : ByteArray) (hm : s.size = 3) : bn s = [((s[0]'(by omega)).toNat : Int), ((s[1]'(by omega)).toNat : Int), ((s[2]'(by omega)).toNat : Int)] := by
  rw [bn_cons s (by omega), bn_drop s 1 (by omega), bn_drop s 2 (by omega), bn_drop_nil s 3 (by omega)]

/-- What begins finds of the second byte, at a first one. -/
def secB (n : Int) (a b : Int) : Bool := if 194 ≤ a ∧ a ≤ 223 then decide (n = 2 ∧ 128 ≤ b ∧ b ≤ 191) else decide (224 ≤ a ∧ a ≤ 244 ∧ lowOf a ≤ b ∧ b ≤ highOf a)
theorem beg_two (a b : Int) : begL [a, b] = secB 2 a b := by
  unfold secB
  by_cases h : 194 ≤ a ∧ a ≤ 223
  · rw [if_pos h, Bool.eq_iff_iff]; simp only [begL, decide_eq_true_eq]
    exact ⟨fun hh => ⟨trivial, by omega⟩, fun hh => by omega⟩
  · rw [if_neg h, Bool.eq_iff_iff]; simp only [begL, decide_eq_true_eq]; omega
theorem beg_three (a b c : Int) : begL [a, b, c] = (secB 3 a b && decide (128 ≤ c ∧ c ≤ 191)) := by
  unfold secB
  by_cases h : 194 ≤ a ∧ a ≤ 223
  · rw [if_pos h, Bool.eq_iff_iff]; simp only [begL, decide_eq_true_eq, Bool.and_eq_true]; omega
  · rw [if_neg h, Bool.eq_iff_iff]; simp only [begL, decide_eq_true_eq, Bool.and_eq_true]; omega

set_option maxRecDepth 100000 in
set_option maxHeartbeats 2000000 in
theorem begins2 (s : ByteArray) (hm : s.size = 2) (w : World) :
    Calls Try.prog 23 #[.string s] w fun e w' => e = .returned (.bool (begL (bn s))) ∧ ∃ n, w' = w.drewN n := by
  have hp0 : 0 < s.size := by omega
  have hp1 : 1 < s.size := by omega
  have HB : Hid (bn s = [(s[0].toNat : Int), (s[1].toNat : Int)]) := bn_two s hm
  have g2 : ((s.size : Int) == 2) = true := by simp; omega
  have b0 : (s[0].toNat : Int) ≤ 255 := by have := s[0].toNat_lt; omega
  have b1 : (s[1].toNat : Int) ≤ 255 := by have := s[1].toNat_lt; omega
  have z1 : (1 : Int) < (s.size : Int) := by omega
  clear hm
  go_enter Try.func23, Try.ntmps23
  go_wp2_with fail
  go_quiet (fail)
  go_wp2
  all_goals (go_ret; refine ⟨ret_bool ?_, _, rfl⟩; rw [HB.out, beg_two]; clear HB; simp only [beq_iff_eq, beq_eq_false_iff_ne] at *; unfold secB lowOf highOf; (repeat' split) <;> first | (simp; omega) | (simp; done) | (rw [Bool.eq_iff_iff]; simp; omega) | omega)

set_option maxRecDepth 100000 in
set_option maxHeartbeats 4000000 in
theorem begins3 (s : ByteArray) (hm : s.size = 3) (w : World) :
    Calls Try.prog 23 #[.string s] w fun e w' => e = .returned (.bool (begL (bn s))) ∧ ∃ n, w' = w.drewN n := by
  have hp0 : 0 < s.size := by omega
  have hp1 : 1 < s.size := by omega
  have hp2 : 2 < s.size := by omega
  have HB : Hid (bn s = [(s[0].toNat : Int), (s[1].toNat : Int), (s[2].toNat : Int)]) := bn_three s hm
  have g2 : ((s.size : Int) == 2) = false := by simp; omega
  have b0 : (s[0].toNat : Int) ≤ 255 := by have := s[0].toNat_lt; omega
  have b1 : (s[1].toNat : Int) ≤ 255 := by have := s[1].toNat_lt; omega
  have z1 : (1 : Int) < (s.size : Int) := by omega
  have z2 : (2 : Int) < (s.size : Int) := by omega
  clear hm
  go_enter Try.func23, Try.ntmps23
  go_wp2_with fail
  go_quiet (fail)
  go_wp2
  all_goals (go_ret; refine ⟨ret_bool ?_, _, rfl⟩; rw [HB.out, beg_three]; clear HB; simp only [beq_iff_eq, beq_eq_false_iff_ne] at *; unfold secB lowOf highOf; (repeat' split) <;> first | (simp; omega) | (simp; done) | (rw [Bool.eq_iff_iff]; simp; omega) | omega)

theorem begins_any (s : ByteArray) (h0 : 2 ≤ s.size) (h1 : s.size ≤ 3) (w : World) :
    Calls Try.prog 23 #[.string s] w fun e w' => e = .returned (.bool (begL (bn s))) ∧ ∃ n, w' = w.drewN n := by
  by_cases h : s.size = 2
  · exact begins2 s h w
  · exact begins3 s (by omega) w
end Go.Proofs.Ytnkbfpmaifgenaa.U
