/- The small functions of package puny, and of the document's: to adapt, thresholds, signs, digits. -/
import Derived.Test.YtpjbiapgkbooaaaPA
import Derived.Test.YtpjbiapgkbooaaaUA
namespace Go.Proofs.Ytpjbiapgkbooaaa
open Go.RowKit U
set_option linter.unusedVariables false

theorem loopA_more (A K : Nat) (h : 455 < A) : loopA A K = loopA (A / 35) (K + 36) := by rw [loopA_at, if_pos h]
theorem loopA_less (A K : Nat) (h : ¬ 455 < A) : loopA A K = K + 36 * A / (A + 38) := by rw [loopA_at, if_neg h]
theorem quo_quo (d p k : Nat) : (d : Int) / (k : Int) / (p : Int) = ((d / k / p : Nat) : Int) := by push_cast; rfl

set_option maxHeartbeats 1000000 in
theorem adapt_any (d p : Nat) (first : Bool) (hd : d ≤ 1099511627776) (hp : 1 ≤ p) (hp2 : p ≤ 9223372036854775807) (w : World) :
    Calls Try.prog 11 #[.int .i64 d, .int .i64 p, .bool first] w fun e w' => e = .returned (.int .i64 (adapt d p first)) ∧ w' = w := by
  go_enter Try.func11, Try.ntmps11
  cases first
  · have H : Hid (adapt d p false = loopA (d / 2 + d / 2 / p) 0) := rfl
    have b1 : d / 2 / p ≤ d / 2 := Nat.div_le_self _ _
    have q : (d : Int) / 2 / (p : Int) = ((d / 2 / p : Nat) : Int) := quo_quo d p 2
    have q0 : 0 ≤ (d : Int) / 2 / (p : Int) := by rw [q]; exact Int.natCast_nonneg _
    have q1 : (d : Int) / 2 / (p : Int) ≤ 1099511627776 := by rw [q]; generalize d / 2 / p = z at *; omega
    clear q
    have Q : Hid ((d : Int) / 2 / (p : Int) = ((d / 2 / p : Nat) : Int)) := quo_quo d p 2
    go_wp2
    go_loop [0, 7] (fun a k => ∃ (A K : Nat), a = .int .i64 A ∧ k = .int .i64 K ∧ A ≤ 2199023255552 ∧ K + A ≤ 2199023255552 ∧ Hid (adapt d p false = loopA A K)) (fun a _ => (intOf a).toNat)
    case atStart => exact ⟨d / 2 + d / 2 / p, 0, by first | rfl | (congr 1; done) | (congr 1; have := Q.out; push_cast; omega), rfl, by omega, by omega, H⟩
    case round =>
      obtain ⟨A, K, rfl, rfl, h1, h2, h3⟩ := hrel
      have c1 := Nat.div_le_self (36 * A) (A + 38)
      have c0 : 0 ≤ 36 * (A : Int) / ((A : Int) + 38) := Int.ediv_nonneg (by omega) (by omega)
      have c2 : 36 * (A : Int) / ((A : Int) + 38) ≤ 36 * 2199023255552 := by
        have : 36 * (A : Int) / ((A : Int) + 38) = ((36 * A / (A + 38) : Nat) : Int) := by push_cast; rfl
        omega
      by_cases hA : 455 < A
      · go_wp2
        refine ⟨⟨A / 35, K + 36, by go_num, by go_num, by omega, by omega, h3.out.trans (loopA_more A K hA)⟩, ?_⟩
        simp [intOf]; omega
      · go_wp2
        go_ret
        refine ⟨ret_int ?_, rfl⟩
        rw [h3.out, loopA_less A K hA]
        push_cast; rfl
  · have H : Hid (adapt d p true = loopA (d / 700 + d / 700 / p) 0) := rfl
    have b1 : d / 700 / p ≤ d / 700 := Nat.div_le_self _ _
    have q : (d : Int) / 700 / (p : Int) = ((d / 700 / p : Nat) : Int) := quo_quo d p 700
    have q0 : 0 ≤ (d : Int) / 700 / (p : Int) := by rw [q]; exact Int.natCast_nonneg _
    have q1 : (d : Int) / 700 / (p : Int) ≤ 1099511627776 := by rw [q]; generalize d / 700 / p = z at *; omega
    clear q
    have Q : Hid ((d : Int) / 700 / (p : Int) = ((d / 700 / p : Nat) : Int)) := quo_quo d p 700
    go_wp2
    go_loop [0, 7] (fun a k => ∃ (A K : Nat), a = .int .i64 A ∧ k = .int .i64 K ∧ A ≤ 2199023255552 ∧ K + A ≤ 2199023255552 ∧ Hid (adapt d p true = loopA A K)) (fun a _ => (intOf a).toNat)
    case atStart => exact ⟨d / 700 + d / 700 / p, 0, by first | rfl | (congr 1; done) | (congr 1; have := Q.out; push_cast; omega), rfl, by omega, by omega, H⟩
    case round =>
      obtain ⟨A, K, rfl, rfl, h1, h2, h3⟩ := hrel
      have c1 := Nat.div_le_self (36 * A) (A + 38)
      have c0 : 0 ≤ 36 * (A : Int) / ((A : Int) + 38) := Int.ediv_nonneg (by omega) (by omega)
      have c2 : 36 * (A : Int) / ((A : Int) + 38) ≤ 36 * 2199023255552 := by
        have : 36 * (A : Int) / ((A : Int) + 38) = ((36 * A / (A + 38) : Nat) : Int) := by push_cast; rfl
        omega
      by_cases hA : 455 < A
      · go_wp2
        refine ⟨⟨A / 35, K + 36, by go_num, by go_num, by omega, by omega, h3.out.trans (loopA_more A K hA)⟩, ?_⟩
        simp [intOf]; omega
      · go_wp2
        go_ret
        refine ⟨ret_int ?_, rfl⟩
        rw [h3.out, loopA_less A K hA]
        push_cast; rfl

set_option maxHeartbeats 1000000 in
theorem radapt_any (d p : Nat) (first : Bool) (hd : d ≤ 1099511627776) (hp : 1 ≤ p) (hp2 : p ≤ 9223372036854775807) (w : World) :
    Calls Try.prog 12 #[.int .i64 d, .int .i64 p, .bool first] w fun e w' => e = .returned (.int .i64 (adapt d p first)) ∧ w' = w := by
  go_enter Try.func12, Try.ntmps12
  cases first
  · have H : Hid (adapt d p false = loopA (d / 2 + d / 2 / p) 0) := rfl
    have b1 : d / 2 / p ≤ d / 2 := Nat.div_le_self _ _
    have q : (d : Int) / 2 / (p : Int) = ((d / 2 / p : Nat) : Int) := quo_quo d p 2
    have q0 : 0 ≤ (d : Int) / 2 / (p : Int) := by rw [q]; exact Int.natCast_nonneg _
    have q1 : (d : Int) / 2 / (p : Int) ≤ 1099511627776 := by rw [q]; generalize d / 2 / p = z at *; omega
    clear q
    have Q : Hid ((d : Int) / 2 / (p : Int) = ((d / 2 / p : Nat) : Int)) := quo_quo d p 2
    go_wp2
    go_loop [0, 7] (fun a k => ∃ (A K : Nat), a = .int .i64 A ∧ k = .int .i64 K ∧ A ≤ 2199023255552 ∧ K + A ≤ 2199023255552 ∧ Hid (adapt d p false = loopA A K)) (fun a _ => (intOf a).toNat)
    case atStart => exact ⟨d / 2 + d / 2 / p, 0, by first | rfl | (congr 1; done) | (congr 1; have := Q.out; push_cast; omega), rfl, by omega, by omega, H⟩
    case round =>
      obtain ⟨A, K, rfl, rfl, h1, h2, h3⟩ := hrel
      have c1 := Nat.div_le_self (36 * A) (A + 38)
      have c0 : 0 ≤ 36 * (A : Int) / ((A : Int) + 38) := Int.ediv_nonneg (by omega) (by omega)
      have c2 : 36 * (A : Int) / ((A : Int) + 38) ≤ 36 * 2199023255552 := by
        have : 36 * (A : Int) / ((A : Int) + 38) = ((36 * A / (A + 38) : Nat) : Int) := by push_cast; rfl
        omega
      by_cases hA : 455 < A
      · go_wp2
        refine ⟨⟨A / 35, K + 36, by go_num, by go_num, by omega, by omega, h3.out.trans (loopA_more A K hA)⟩, ?_⟩
        simp [intOf]; omega
      · go_wp2
        go_ret
        refine ⟨ret_int ?_, rfl⟩
        rw [h3.out, loopA_less A K hA]
        push_cast; rfl
  · have H : Hid (adapt d p true = loopA (d / 700 + d / 700 / p) 0) := rfl
    have b1 : d / 700 / p ≤ d / 700 := Nat.div_le_self _ _
    have q : (d : Int) / 700 / (p : Int) = ((d / 700 / p : Nat) : Int) := quo_quo d p 700
    have q0 : 0 ≤ (d : Int) / 700 / (p : Int) := by rw [q]; exact Int.natCast_nonneg _
    have q1 : (d : Int) / 700 / (p : Int) ≤ 1099511627776 := by rw [q]; generalize d / 700 / p = z at *; omega
    clear q
    have Q : Hid ((d : Int) / 700 / (p : Int) = ((d / 700 / p : Nat) : Int)) := quo_quo d p 700
    go_wp2
    go_loop [0, 7] (fun a k => ∃ (A K : Nat), a = .int .i64 A ∧ k = .int .i64 K ∧ A ≤ 2199023255552 ∧ K + A ≤ 2199023255552 ∧ Hid (adapt d p true = loopA A K)) (fun a _ => (intOf a).toNat)
    case atStart => exact ⟨d / 700 + d / 700 / p, 0, by first | rfl | (congr 1; done) | (congr 1; have := Q.out; push_cast; omega), rfl, by omega, by omega, H⟩
    case round =>
      obtain ⟨A, K, rfl, rfl, h1, h2, h3⟩ := hrel
      have c1 := Nat.div_le_self (36 * A) (A + 38)
      have c0 : 0 ≤ 36 * (A : Int) / ((A : Int) + 38) := Int.ediv_nonneg (by omega) (by omega)
      have c2 : 36 * (A : Int) / ((A : Int) + 38) ≤ 36 * 2199023255552 := by
        have : 36 * (A : Int) / ((A : Int) + 38) = ((36 * A / (A + 38) : Nat) : Int) := by push_cast; rfl
        omega
      by_cases hA : 455 < A
      · go_wp2
        refine ⟨⟨A / 35, K + 36, by go_num, by go_num, by omega, by omega, h3.out.trans (loopA_more A K hA)⟩, ?_⟩
        simp [intOf]; omega
      · go_wp2
        go_ret
        refine ⟨ret_int ?_, rfl⟩
        rw [h3.out, loopA_less A K hA]
        push_cast; rfl

set_option maxHeartbeats 400000 in
theorem thr_any (k b : Nat) (hk : k ≤ 1099511627776) (hb : b ≤ 1099511627776) (w : World) :
    Calls Try.prog 39 #[.int .i64 k, .int .i64 b] w fun e w' => e = .returned (.int .i64 (thr k b)) ∧ w' = w := by
  go_enter Try.func39, Try.ntmps39
  go_wp2
  all_goals (go_ret; exact ⟨ret_int (by unfold thr; (repeat' split) <;> omega), rfl⟩)

set_option maxHeartbeats 400000 in
theorem rthr_any (k b : Nat) (hk : k ≤ 1099511627776) (hb : b ≤ 1099511627776) (w : World) :
    Calls Try.prog 19 #[.int .i64 k, .int .i64 b] w fun e w' => e = .returned (.int .i64 (thr k b)) ∧ w' = w := by
  go_enter Try.func19, Try.ntmps19
  go_wp2
  all_goals (go_ret; exact ⟨ret_int (by unfold thr; (repeat' split) <;> omega), rfl⟩)

set_option maxHeartbeats 400000 in
theorem sign_any (d : Nat) (hd : d < 36) (w : World) :
    Calls Try.prog 40 #[.int .i64 d] w fun e w' => e = .returned (.int .u8 (sgn d)) ∧ w' = w := by
  go_enter Try.func40, Try.ntmps40
  go_wp2
  all_goals (go_ret; exact ⟨ret_int (by unfold sgn; (repeat' split) <;> omega), rfl⟩)

set_option maxHeartbeats 400000 in
theorem letter_any (d : Nat) (hd : d < 36) (w : World) :
    Calls Try.prog 20 #[.int .i64 d] w fun e w' => e = .returned (.int .u8 (sgn d)) ∧ w' = w := by
  go_enter Try.func20, Try.ntmps20
  go_wp2
  all_goals (go_ret; exact ⟨ret_int (by unfold sgn; (repeat' split) <;> omega), rfl⟩)

/-- What a digit is read as: where it is none, 0 and no. -/
theorem dg_none (c : Int) (h : dg c = none) : ¬ (97 ≤ c ∧ c ≤ 122) ∧ ¬ (65 ≤ c ∧ c ≤ 90) ∧ ¬ (48 ≤ c ∧ c ≤ 57) := by
  unfold dg at h; (repeat' split at h) <;> first | (cases h; done) | exact ⟨by assumption, by assumption, by assumption⟩
theorem dg_some (c : Int) (d : Nat) (h : dg c = some d) : (97 ≤ c ∧ c ≤ 122 ∧ (d : Int) = c - 97) ∨ (65 ≤ c ∧ c ≤ 90 ∧ (d : Int) = c - 65) ∨ (48 ≤ c ∧ c ≤ 57 ∧ (d : Int) = c - 22) := by
  unfold dg at h; (repeat' split at h) <;> first | (cases h; done) | (obtain rfl := Option.some.inj h; omega)
set_option maxHeartbeats 400000 in
theorem digit_none (c : Int) (h0 : 0 ≤ c) (h1 : c ≤ 255) (h : dg c = none) (w : World) :
    Calls Try.prog 44 #[.int .u8 c] w fun e w' => e = .returned (.tuple #[.int .i64 0, .bool false]) ∧ w' = w := by
  obtain ⟨a1, a2, a3⟩ := dg_none c h
  go_enter Try.func44, Try.ntmps44
  go_wp2
  all_goals first | (exfalso; omega) | (go_ret2; exact ⟨rfl, rfl⟩)
set_option maxHeartbeats 400000 in
theorem digit_some (c : Int) (d : Nat) (h : dg c = some d) (w : World) :
    Calls Try.prog 44 #[.int .u8 c] w fun e w' => e = .returned (.tuple #[.int .i64 d, .bool true]) ∧ w' = w := by
  have H := dg_some c d h
  have e : Hid (c - 48 + 26 = c - 22) := by show c - 48 + 26 = c - 22; omega
  clear h
  go_enter Try.func44, Try.ntmps44
  rcases H with ⟨a1, a2, a3⟩ | ⟨a1, a2, a3⟩ | ⟨a1, a2, a3⟩
  all_goals (rw [a3]; clear a3; go_wp2; go_ret2; first | exact ⟨rfl, rfl⟩ | (rw [e.out]; exact ⟨rfl, rfl⟩))
set_option maxHeartbeats 400000 in
theorem rdigit_none (c : Int) (h0 : 0 ≤ c) (h1 : c ≤ 255) (h : dg c = none) (w : World) :
    Calls Try.prog 25 #[.int .u8 c] w fun e w' => e = .returned (.int .i64 (-1)) ∧ w' = w := by
  obtain ⟨a1, a2, a3⟩ := dg_none c h
  go_enter Try.func25, Try.ntmps25
  go_wp2
  all_goals first | (exfalso; omega) | (go_ret; exact ⟨rfl, rfl⟩)
set_option maxHeartbeats 400000 in
theorem rdigit_some (c : Int) (d : Nat) (h : dg c = some d) (w : World) :
    Calls Try.prog 25 #[.int .u8 c] w fun e w' => e = .returned (.int .i64 d) ∧ w' = w := by
  have H := dg_some c d h
  have e : Hid (c - 48 + 26 = c - 22) := by show c - 48 + 26 = c - 22; omega
  clear h
  go_enter Try.func25, Try.ntmps25
  rcases H with ⟨a1, a2, a3⟩ | ⟨a1, a2, a3⟩ | ⟨a1, a2, a3⟩
  all_goals (rw [a3]; clear a3; go_wp2; go_ret; first | exact ⟨rfl, rfl⟩ | (rw [e.out]; exact ⟨rfl, rfl⟩))
end Go.Proofs.Ytpjbiapgkbooaaa
