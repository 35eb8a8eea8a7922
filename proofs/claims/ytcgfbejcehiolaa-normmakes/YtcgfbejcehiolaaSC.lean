/- The comparison of two points, and sorting by insertion. -/
import Derived.Test.YtcgfbejcehiolaaSA
namespace Go.Proofs.Ytcgfbejcehiolaa
open Go.RowKit
set_option linter.unusedVariables false

/-- What cmp.Compare answers. -/
def cmpI (a b : Int) : Int := if a < b then -1 else if b < a then 1 else 0
theorem cmpI_neg (a b : Int) : (cmpI a b < 0) ↔ a < b := by unfold cmpI; split <;> (try split) <;> omega

set_option maxRecDepth 100000 in
theorem isNaN_any (a : Int) (w : World) : Calls Try.prog 73 #[.int .u8 a] w fun e w' => e = .returned (.bool false) ∧ w' = w := by
  go_enter Try.func73, Try.ntmps73
  go_wp2
  go_ret
  exact ⟨by simp, rfl⟩
set_option maxRecDepth 100000 in
theorem compare_any (a b : Int) (w : World) : Calls Try.prog 57 #[.int .u8 a, .int .u8 b] w fun e w' => e = .returned (.int .i64 (cmpI a b)) ∧ w' = w := by
  obtain ⟨c, hc⟩ : ∃ c, c = cmpI a b := ⟨_, rfl⟩
  have HC := hid hc
  rw [← hc]
  clear hc
  by_cases h1 : a < b
  · have HE : Hid (c = -1) := by show _ = _; rw [HC.out]; unfold cmpI; rw [if_pos h1]
    clear HC
    go_enter Try.func57, Try.ntmps57
    go_wp2_with (go_at_call 73; refine (isNaN_any _ _).mono ?_; rintro e w' ⟨rfl, rfl⟩)
    go_ret
    exact ⟨by rw [HE.out]; rfl, rfl⟩
  · by_cases h2 : b < a
    · have HE : Hid (c = 1) := by show _ = _; rw [HC.out]; unfold cmpI; rw [if_neg h1, if_pos h2]
      clear HC
      go_enter Try.func57, Try.ntmps57
      go_wp2_with (go_at_call 73; refine (isNaN_any _ _).mono ?_; rintro e w' ⟨rfl, rfl⟩)
      go_ret
      exact ⟨by rw [HE.out]; rfl, rfl⟩
    · have HE : Hid (c = 0) := by show _ = _; rw [HC.out]; unfold cmpI; rw [if_neg h1, if_neg h2]
      clear HC
      go_enter Try.func57, Try.ntmps57
      go_wp2_with (go_at_call 73; refine (isNaN_any _ _).mono ?_; rintro e w' ⟨rfl, rfl⟩)
      go_ret
      exact ⟨by rw [HE.out]; rfl, rfl⟩
set_option maxRecDepth 100000 in
theorem byClass_any (x y : Pt) (w : World) : Calls Try.prog 56 #[.agg #[.int .i32 x.1, .int .u8 x.2], .agg #[.int .i32 y.1, .int .u8 y.2]] w fun e w' => e = .returned (.int .i64 (cmpI x.2 y.2)) ∧ Below w.heap.size w w' := by
  go_enter Try.func56, Try.ntmps56
  go_wp2_with fail
  refine (compare_any _ _ _).mono ?_
  rintro e w' ⟨rfl, rfl⟩
  go_wp2
  go_ret
  exact ⟨rfl, ((Below.refl _ w).alloc (Nat.le_refl _) _).alloc (by simp) _⟩
end Go.Proofs.Ytcgfbejcehiolaa
