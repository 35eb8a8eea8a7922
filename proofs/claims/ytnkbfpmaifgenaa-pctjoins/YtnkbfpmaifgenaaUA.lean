/- Contracts of the small functions of package utf. -/
import Derived.Test.YtnkbfpmaifgenaaProg
import Derived.Test.YtnkbfpmaifgenaaUM
import Derived.WalkKit
import Derived.WalkSpells
import Derived.WalkLawsBesides
namespace Go.Proofs.Ytnkbfpmaifgenaa.U
open Go.RowKit

theorem ret_int {k : IntKind} {a b : Int} (h : a = b) : Ending.returned (.int k a) = .returned (.int k b) := by rw [h]
theorem ret_pair {k k' : IntKind} {a b c d : Int} (h : a = b) (g : c = d) : Ending.returned (.tuple #[.int k a, .int k' c]) = .returned (.tuple #[.int k b, .int k' d]) := by rw [h, g]
theorem ret_bool {a b : Bool} (h : a = b) : Ending.returned (.bool a) = .returned (.bool b) := by rw [h]

set_option maxHeartbeats 400000 in
theorem follow_any (c : Int) (h0 : 0 ≤ c) (h1 : c ≤ 255) (w : World) :
    Calls Try.prog 26 #[.int .u8 c] w fun e w' => e = .returned (.int .i64 (follow c)) ∧ w' = w := by
  go_enter Try.func26, Try.ntmps26
  go_wp2
  all_goals (go_ret; exact ⟨ret_int (by unfold follow; (repeat' split) <;> omega), rfl⟩)

set_option maxHeartbeats 400000 in
theorem second_any (c : Int) (w : World) :
    Calls Try.prog 27 #[.int .u8 c] w fun e w' => e = .returned (.tuple #[.int .u8 (lowOf c), .int .u8 (highOf c)]) ∧ w' = w := by
  go_enter Try.func27, Try.ntmps27
  go_wp2
  all_goals (go_ret2; exact ⟨ret_pair (by simp only [beq_iff_eq, beq_eq_false_iff_ne] at *; unfold lowOf; (repeat' split) <;> omega) (by simp only [beq_iff_eq, beq_eq_false_iff_ne] at *; unfold highOf; (repeat' split) <;> omega), rfl⟩)

set_option maxHeartbeats 400000 in
theorem tail_any (c : Int) (h0 : 0 ≤ c) (h1 : c ≤ 1114111) (w : World) :
    Calls Try.prog 31 #[.int .i32 c] w fun e w' => e = .returned (.int .u8 (128 + c % 64)) ∧ w' = w := by
  go_enter Try.func31, Try.ntmps31
  go_wp2
  go_ret
  exact ⟨rfl, rfl⟩
end Go.Proofs.Ytnkbfpmaifgenaa.U
