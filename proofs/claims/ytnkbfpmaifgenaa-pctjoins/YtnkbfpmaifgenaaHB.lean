/- The program's In: which signs a set has. (Written by tools/r9/hb.py.) -/
import Derived.Test.YtnkbfpmaifgenaaHA
namespace Go.Proofs.Ytnkbfpmaifgenaa.E
open Go.RowKit
set_option linter.unusedVariables false

theorem asc_of {t : ByteArray} (h : t.data.toList.all (fun b => decide (b.toNat < 128)) = true) : Asc t := fun b hb => by
  have := List.all_eq_true.1 h b hb
  exact of_decide_eq_true this
def a6 : List Int := [36, 37, 38, 43, 44]
theorem has6 (r : Int) (hr : U.scal r = true) (w : World) : Calls Try.prog 19 #[.string ⟨#[36, 37, 38, 43, 44]⟩, .int .i32 r] w fun e W' => e = .returned (.bool (a6.contains r)) ∧ Below w.heap.size w W' :=
  contains_any ⟨#[36, 37, 38, 43, 44]⟩ (asc_of (by decide)) (by decide) r hr w
def a5 : List Int := [47, 58, 59, 61, 64, 91, 92, 93, 124]
theorem has5 (r : Int) (hr : U.scal r = true) (w : World) : Calls Try.prog 19 #[.string ⟨#[47, 58, 59, 61, 64, 91, 92, 93, 124]⟩, .int .i32 r] w fun e W' => e = .returned (.bool (a5.contains r)) ∧ Below w.heap.size w W' :=
  contains_any ⟨#[47, 58, 59, 61, 64, 91, 92, 93, 124]⟩ (asc_of (by decide)) (by decide) r hr w
def a4 : List Int := [63, 94, 96, 123, 125]
theorem has4 (r : Int) (hr : U.scal r = true) (w : World) : Calls Try.prog 19 #[.string ⟨#[63, 94, 96, 123, 125]⟩, .int .i32 r] w fun e W' => e = .returned (.bool (a4.contains r)) ∧ Below w.heap.size w W' :=
  contains_any ⟨#[63, 94, 96, 123, 125]⟩ (asc_of (by decide)) (by decide) r hr w
def a2 : List Int := [32, 34, 35, 60, 62]
theorem has2 (r : Int) (hr : U.scal r = true) (w : World) : Calls Try.prog 19 #[.string ⟨#[32, 34, 35, 60, 62]⟩, .int .i32 r] w fun e W' => e = .returned (.bool (a2.contains r)) ∧ Below w.heap.size w W' :=
  contains_any ⟨#[32, 34, 35, 60, 62]⟩ (asc_of (by decide)) (by decide) r hr w
def a1 : List Int := [32, 34, 60, 62, 96]
theorem has1 (r : Int) (hr : U.scal r = true) (w : World) : Calls Try.prog 19 #[.string ⟨#[32, 34, 60, 62, 96]⟩, .int .i32 r] w fun e W' => e = .returned (.bool (a1.contains r)) ∧ Below w.heap.size w W' :=
  contains_any ⟨#[32, 34, 60, 62, 96]⟩ (asc_of (by decide)) (by decide) r hr w
theorem in0 (r : Int) : inS r 0 = ctl r := by unfold inS; simp [sgn]
theorem in2 (r : Int) : inS r 2 = (a2.contains r || ctl r) := by
  unfold inS; rw [Bool.or_comm]; rfl
theorem in4 (r : Int) : inS r 4 = (a4.contains r || (a2.contains r || ctl r)) := by
  have e : sgn 4 = a2 ++ a4 := rfl
  unfold inS; rw [e, List.contains_eq_any_beq, List.any_append, ← List.contains_eq_any_beq, ← List.contains_eq_any_beq]
  cases ctl r <;> cases a4.contains r <;> cases a2.contains r <;> rfl
theorem in5 (r : Int) : inS r 5 = (a5.contains r || (a4.contains r || (a2.contains r || ctl r))) := by
  have e : sgn 5 = a2 ++ (a4 ++ a5) := rfl
  unfold inS; rw [e, List.contains_eq_any_beq, List.any_append, List.any_append, ← List.contains_eq_any_beq, ← List.contains_eq_any_beq, ← List.contains_eq_any_beq]
  cases ctl r <;> cases a5.contains r <;> cases a4.contains r <;> cases a2.contains r <;> rfl
theorem in6 (r : Int) : inS r 6 = (a6.contains r || (a5.contains r || (a4.contains r || (a2.contains r || ctl r)))) := by
  have e : sgn 6 = a2 ++ (a4 ++ (a5 ++ a6)) := rfl
  unfold inS; rw [e, List.contains_eq_any_beq, List.any_append, List.any_append, List.any_append, ← List.contains_eq_any_beq, ← List.contains_eq_any_beq, ← List.contains_eq_any_beq, ← List.contains_eq_any_beq]
  cases ctl r <;> cases a6.contains r <;> cases a5.contains r <;> cases a4.contains r <;> cases a2.contains r <;> rfl
theorem in1 (r : Int) : inS r 1 = (a1.contains r || ctl r) := by
  unfold inS; rw [Bool.or_comm]; rfl
theorem in3 (r : Int) : inS r 3 = ((r == 39) || inS r 2) := by
  have e : sgn 3 = a2 ++ [39] := rfl
  rw [in2]
  unfold inS; rw [e, List.contains_eq_any_beq, List.any_append, ← List.contains_eq_any_beq]
  have e2 : ([39] : List Int).any (fun x => r == x) = (r == 39) := by simp
  rw [e2]
  cases ctl r <;> cases a2.contains r <;> cases (r == 39) <;> rfl
set_option maxRecDepth 100000 in
set_option maxHeartbeats 4000000 in
theorem pin0 (r : Int) (hr : U.scal r = true) (w : World) : Calls Try.prog 10 #[.int .i32 r, .int .u8 0] w fun e W' => e = .returned (.bool (inS r 0)) ∧ Below w.heap.size w W' := by
  obtain ⟨h0, h1⟩ := scal_bd hr
  have hct : ctl r = (decide (r < 32) || decide (126 < r)) := rfl
  have hcc : (r < 32 ∧ ctl r = true) ∨ (¬ r < 32 ∧ 126 < r ∧ ctl r = true) ∨ (¬ r < 32 ∧ ¬ 126 < r ∧ ctl r = false) := by
    by_cases c1 : r < 32
    · left; exact ⟨c1, by rw [hct, decide_eq_true c1]; rfl⟩
    · by_cases c2 : 126 < r
      · right; left; exact ⟨c1, c2, by rw [hct, decide_eq_true c2]; simp⟩
      · right; right; exact ⟨c1, c2, by rw [hct, decide_eq_false c1, decide_eq_false c2]; rfl⟩
  rw [in0]
  obtain ⟨x, ex⟩ : ∃ x, ctl r = x := ⟨_, rfl⟩
  rw [ex] at hcc ⊢
  clear ex hct hr
  have HB : Hid (Below w.heap.size w w) := Below.refl _ _
  go_enter Try.func10, Try.ntmps10
  rcases hcc with ⟨c1, rfl⟩ | ⟨c1, c2, rfl⟩ | ⟨c1, c2, rfl⟩
  all_goals (go_wp2; go_ret; first | exact ⟨rfl, HB.out⟩ | exact ⟨U.ret_bool (by rw [decide_eq_false (by omega : ¬ r < 32), decide_eq_false (by omega : ¬ 126 < r)] <;> rfl), HB.out⟩ | exact ⟨U.ret_bool (by rw [decide_eq_true (by omega : 126 < r)]; simp), HB.out⟩ | exact ⟨U.ret_bool (by rw [decide_eq_true (by omega : r < 32)]; rfl), HB.out⟩)
set_option maxRecDepth 100000 in
set_option maxHeartbeats 4000000 in
theorem pin2 (r : Int) (hr : U.scal r = true) (w : World) : Calls Try.prog 10 #[.int .i32 r, .int .u8 2] w fun e W' => e = .returned (.bool (inS r 2)) ∧ Below w.heap.size w W' := by
  obtain ⟨h0, h1⟩ := scal_bd hr
  have hct : ctl r = (decide (r < 32) || decide (126 < r)) := rfl
  have hcc : (r < 32 ∧ ctl r = true) ∨ (¬ r < 32 ∧ 126 < r ∧ ctl r = true) ∨ (¬ r < 32 ∧ ¬ 126 < r ∧ ctl r = false) := by
    by_cases c1 : r < 32
    · left; exact ⟨c1, by rw [hct, decide_eq_true c1]; rfl⟩
    · by_cases c2 : 126 < r
      · right; left; exact ⟨c1, c2, by rw [hct, decide_eq_true c2]; simp⟩
      · right; right; exact ⟨c1, c2, by rw [hct, decide_eq_false c1, decide_eq_false c2]; rfl⟩
  rw [in2]
  have H2 := hid (fun W => has2 r hr W)
  obtain ⟨b2, e2⟩ : ∃ b, a2.contains r = b := ⟨_, rfl⟩
  rw [e2] at H2 ⊢
  clear e2
  obtain ⟨x, ex⟩ : ∃ x, ctl r = x := ⟨_, rfl⟩
  rw [ex] at hcc ⊢
  clear ex hct hr
  have HB : Hid (Below w.heap.size w w) := Below.refl _ _
  go_enter Try.func10, Try.ntmps10
  go_wp2_with fail
  refine (H2.out _).mono ?_
  rintro e w' ⟨rfl, B⟩
  replace HB := hid (HB.out.trans (B.mono HB.out.size))
  clear B H2
  cases b2
  case true => (go_wp2; go_ret; exact ⟨rfl, HB.out⟩)
  rcases hcc with ⟨c1, rfl⟩ | ⟨c1, c2, rfl⟩ | ⟨c1, c2, rfl⟩
  all_goals (go_wp2; go_ret; first | exact ⟨rfl, HB.out⟩ | exact ⟨U.ret_bool (by rw [decide_eq_false (by omega : ¬ r < 32), decide_eq_false (by omega : ¬ 126 < r)] <;> rfl), HB.out⟩ | exact ⟨U.ret_bool (by rw [decide_eq_true (by omega : 126 < r)]; simp), HB.out⟩ | exact ⟨U.ret_bool (by rw [decide_eq_true (by omega : r < 32)]; rfl), HB.out⟩)
set_option maxRecDepth 100000 in
set_option maxHeartbeats 4000000 in
theorem pin4 (r : Int) (hr : U.scal r = true) (w : World) : Calls Try.prog 10 #[.int .i32 r, .int .u8 4] w fun e W' => e = .returned (.bool (inS r 4)) ∧ Below w.heap.size w W' := by
  obtain ⟨h0, h1⟩ := scal_bd hr
  have hct : ctl r = (decide (r < 32) || decide (126 < r)) := rfl
  have hcc : (r < 32 ∧ ctl r = true) ∨ (¬ r < 32 ∧ 126 < r ∧ ctl r = true) ∨ (¬ r < 32 ∧ ¬ 126 < r ∧ ctl r = false) := by
    by_cases c1 : r < 32
    · left; exact ⟨c1, by rw [hct, decide_eq_true c1]; rfl⟩
    · by_cases c2 : 126 < r
      · right; left; exact ⟨c1, c2, by rw [hct, decide_eq_true c2]; simp⟩
      · right; right; exact ⟨c1, c2, by rw [hct, decide_eq_false c1, decide_eq_false c2]; rfl⟩
  rw [in4]
  have H4 := hid (fun W => has4 r hr W)
  obtain ⟨b4, e4⟩ : ∃ b, a4.contains r = b := ⟨_, rfl⟩
  rw [e4] at H4 ⊢
  clear e4
  have H2 := hid (fun W => has2 r hr W)
  obtain ⟨b2, e2⟩ : ∃ b, a2.contains r = b := ⟨_, rfl⟩
  rw [e2] at H2 ⊢
  clear e2
  obtain ⟨x, ex⟩ : ∃ x, ctl r = x := ⟨_, rfl⟩
  rw [ex] at hcc ⊢
  clear ex hct hr
  have HB : Hid (Below w.heap.size w w) := Below.refl _ _
  go_enter Try.func10, Try.ntmps10
  go_wp2_with fail
  refine (H4.out _).mono ?_
  rintro e w' ⟨rfl, B⟩
  replace HB := hid (HB.out.trans (B.mono HB.out.size))
  clear B H4
  cases b4
  case true => (go_wp2; go_ret; exact ⟨rfl, HB.out⟩)
  go_wp2_with fail
  refine (H2.out _).mono ?_
  rintro e w' ⟨rfl, B⟩
  replace HB := hid (HB.out.trans (B.mono HB.out.size))
  clear B H2
  cases b2
  case true => (go_wp2; go_ret; exact ⟨rfl, HB.out⟩)
  rcases hcc with ⟨c1, rfl⟩ | ⟨c1, c2, rfl⟩ | ⟨c1, c2, rfl⟩
  all_goals (go_wp2; go_ret; first | exact ⟨rfl, HB.out⟩ | exact ⟨U.ret_bool (by rw [decide_eq_false (by omega : ¬ r < 32), decide_eq_false (by omega : ¬ 126 < r)] <;> rfl), HB.out⟩ | exact ⟨U.ret_bool (by rw [decide_eq_true (by omega : 126 < r)]; simp), HB.out⟩ | exact ⟨U.ret_bool (by rw [decide_eq_true (by omega : r < 32)]; rfl), HB.out⟩)
set_option maxRecDepth 100000 in
set_option maxHeartbeats 4000000 in
theorem pin5 (r : Int) (hr : U.scal r = true) (w : World) : Calls Try.prog 10 #[.int .i32 r, .int .u8 5] w fun e W' => e = .returned (.bool (inS r 5)) ∧ Below w.heap.size w W' := by
  obtain ⟨h0, h1⟩ := scal_bd hr
  have hct : ctl r = (decide (r < 32) || decide (126 < r)) := rfl
  have hcc : (r < 32 ∧ ctl r = true) ∨ (¬ r < 32 ∧ 126 < r ∧ ctl r = true) ∨ (¬ r < 32 ∧ ¬ 126 < r ∧ ctl r = false) := by
    by_cases c1 : r < 32
    · left; exact ⟨c1, by rw [hct, decide_eq_true c1]; rfl⟩
    · by_cases c2 : 126 < r
      · right; left; exact ⟨c1, c2, by rw [hct, decide_eq_true c2]; simp⟩
      · right; right; exact ⟨c1, c2, by rw [hct, decide_eq_false c1, decide_eq_false c2]; rfl⟩
  rw [in5]
  have H5 := hid (fun W => has5 r hr W)
  obtain ⟨b5, e5⟩ : ∃ b, a5.contains r = b := ⟨_, rfl⟩
  rw [e5] at H5 ⊢
  clear e5
  have H4 := hid (fun W => has4 r hr W)
  obtain ⟨b4, e4⟩ : ∃ b, a4.contains r = b := ⟨_, rfl⟩
  rw [e4] at H4 ⊢
  clear e4
  have H2 := hid (fun W => has2 r hr W)
  obtain ⟨b2, e2⟩ : ∃ b, a2.contains r = b := ⟨_, rfl⟩
  rw [e2] at H2 ⊢
  clear e2
  obtain ⟨x, ex⟩ : ∃ x, ctl r = x := ⟨_, rfl⟩
  rw [ex] at hcc ⊢
  clear ex hct hr
  have HB : Hid (Below w.heap.size w w) := Below.refl _ _
  go_enter Try.func10, Try.ntmps10
  go_wp2_with fail
  refine (H5.out _).mono ?_
  rintro e w' ⟨rfl, B⟩
  replace HB := hid (HB.out.trans (B.mono HB.out.size))
  clear B H5
  cases b5
  case true => (go_wp2; go_ret; exact ⟨rfl, HB.out⟩)
  go_wp2_with fail
  refine (H4.out _).mono ?_
  rintro e w' ⟨rfl, B⟩
  replace HB := hid (HB.out.trans (B.mono HB.out.size))
  clear B H4
  cases b4
  case true => (go_wp2; go_ret; exact ⟨rfl, HB.out⟩)
  go_wp2_with fail
  refine (H2.out _).mono ?_
  rintro e w' ⟨rfl, B⟩
  replace HB := hid (HB.out.trans (B.mono HB.out.size))
  clear B H2
  cases b2
  case true => (go_wp2; go_ret; exact ⟨rfl, HB.out⟩)
  rcases hcc with ⟨c1, rfl⟩ | ⟨c1, c2, rfl⟩ | ⟨c1, c2, rfl⟩
  all_goals (go_wp2; go_ret; first | exact ⟨rfl, HB.out⟩ | exact ⟨U.ret_bool (by rw [decide_eq_false (by omega : ¬ r < 32), decide_eq_false (by omega : ¬ 126 < r)] <;> rfl), HB.out⟩ | exact ⟨U.ret_bool (by rw [decide_eq_true (by omega : 126 < r)]; simp), HB.out⟩ | exact ⟨U.ret_bool (by rw [decide_eq_true (by omega : r < 32)]; rfl), HB.out⟩)
set_option maxRecDepth 100000 in
set_option maxHeartbeats 4000000 in
theorem pin6 (r : Int) (hr : U.scal r = true) (w : World) : Calls Try.prog 10 #[.int .i32 r, .int .u8 6] w fun e W' => e = .returned (.bool (inS r 6)) ∧ Below w.heap.size w W' := by
  obtain ⟨h0, h1⟩ := scal_bd hr
  have hct : ctl r = (decide (r < 32) || decide (126 < r)) := rfl
  have hcc : (r < 32 ∧ ctl r = true) ∨ (¬ r < 32 ∧ 126 < r ∧ ctl r = true) ∨ (¬ r < 32 ∧ ¬ 126 < r ∧ ctl r = false) := by
    by_cases c1 : r < 32
    · left; exact ⟨c1, by rw [hct, decide_eq_true c1]; rfl⟩
    · by_cases c2 : 126 < r
      · right; left; exact ⟨c1, c2, by rw [hct, decide_eq_true c2]; simp⟩
      · right; right; exact ⟨c1, c2, by rw [hct, decide_eq_false c1, decide_eq_false c2]; rfl⟩
  rw [in6]
  have H6 := hid (fun W => has6 r hr W)
  obtain ⟨b6, e6⟩ : ∃ b, a6.contains r = b := ⟨_, rfl⟩
  rw [e6] at H6 ⊢
  clear e6
  have H5 := hid (fun W => has5 r hr W)
  obtain ⟨b5, e5⟩ : ∃ b, a5.contains r = b := ⟨_, rfl⟩
  rw [e5] at H5 ⊢
  clear e5
  have H4 := hid (fun W => has4 r hr W)
  obtain ⟨b4, e4⟩ : ∃ b, a4.contains r = b := ⟨_, rfl⟩
  rw [e4] at H4 ⊢
  clear e4
  have H2 := hid (fun W => has2 r hr W)
  obtain ⟨b2, e2⟩ : ∃ b, a2.contains r = b := ⟨_, rfl⟩
  rw [e2] at H2 ⊢
  clear e2
  obtain ⟨x, ex⟩ : ∃ x, ctl r = x := ⟨_, rfl⟩
  rw [ex] at hcc ⊢
  clear ex hct hr
  have HB : Hid (Below w.heap.size w w) := Below.refl _ _
  go_enter Try.func10, Try.ntmps10
  go_wp2_with fail
  refine (H6.out _).mono ?_
  rintro e w' ⟨rfl, B⟩
  replace HB := hid (HB.out.trans (B.mono HB.out.size))
  clear B H6
  cases b6
  case true => (go_wp2; go_ret; exact ⟨rfl, HB.out⟩)
  go_wp2_with fail
  refine (H5.out _).mono ?_
  rintro e w' ⟨rfl, B⟩
  replace HB := hid (HB.out.trans (B.mono HB.out.size))
  clear B H5
  cases b5
  case true => (go_wp2; go_ret; exact ⟨rfl, HB.out⟩)
  go_wp2_with fail
  refine (H4.out _).mono ?_
  rintro e w' ⟨rfl, B⟩
  replace HB := hid (HB.out.trans (B.mono HB.out.size))
  clear B H4
  cases b4
  case true => (go_wp2; go_ret; exact ⟨rfl, HB.out⟩)
  go_wp2_with fail
  refine (H2.out _).mono ?_
  rintro e w' ⟨rfl, B⟩
  replace HB := hid (HB.out.trans (B.mono HB.out.size))
  clear B H2
  cases b2
  case true => (go_wp2; go_ret; exact ⟨rfl, HB.out⟩)
  rcases hcc with ⟨c1, rfl⟩ | ⟨c1, c2, rfl⟩ | ⟨c1, c2, rfl⟩
  all_goals (go_wp2; go_ret; first | exact ⟨rfl, HB.out⟩ | exact ⟨U.ret_bool (by rw [decide_eq_false (by omega : ¬ r < 32), decide_eq_false (by omega : ¬ 126 < r)] <;> rfl), HB.out⟩ | exact ⟨U.ret_bool (by rw [decide_eq_true (by omega : 126 < r)]; simp), HB.out⟩ | exact ⟨U.ret_bool (by rw [decide_eq_true (by omega : r < 32)]; rfl), HB.out⟩)
set_option maxRecDepth 100000 in
set_option maxHeartbeats 4000000 in
theorem pin1 (r : Int) (hr : U.scal r = true) (w : World) : Calls Try.prog 10 #[.int .i32 r, .int .u8 1] w fun e W' => e = .returned (.bool (inS r 1)) ∧ Below w.heap.size w W' := by
  obtain ⟨h0, h1⟩ := scal_bd hr
  rw [in1]
  have H1 := hid (fun W => has1 r hr W)
  have H0 := hid (fun W => pin0 r hr W)
  rw [in0] at H0
  obtain ⟨b1, e1⟩ : ∃ b, a1.contains r = b := ⟨_, rfl⟩
  rw [e1] at H1 ⊢
  obtain ⟨x, ex⟩ : ∃ x, ctl r = x := ⟨_, rfl⟩
  rw [ex] at H0 ⊢
  clear ex e1 hr
  have HB : Hid (Below w.heap.size w w) := Below.refl _ _
  go_enter Try.func10, Try.ntmps10
  go_wp2_with fail
  refine (H1.out _).mono ?_
  rintro e w' ⟨rfl, B⟩
  replace HB := hid (HB.out.trans (B.mono HB.out.size))
  clear B H1
  cases b1
  case true => (go_wp2; go_ret; exact ⟨rfl, HB.out⟩)
  go_wp2_with fail
  refine (H0.out _).mono ?_
  rintro e w' ⟨rfl, B⟩
  replace HB := hid (HB.out.trans (B.mono HB.out.size))
  clear B H0
  go_wp2
  go_ret
  exact ⟨rfl, HB.out⟩
set_option maxRecDepth 100000 in
set_option maxHeartbeats 4000000 in
theorem pin3 (r : Int) (hr : U.scal r = true) (w : World) : Calls Try.prog 10 #[.int .i32 r, .int .u8 3] w fun e W' => e = .returned (.bool (inS r 3)) ∧ Below w.heap.size w W' := by
  obtain ⟨h0, h1⟩ := scal_bd hr
  rw [in3]
  have H2 := hid (fun W => pin2 r hr W)
  obtain ⟨x, ex⟩ : ∃ x, inS r 2 = x := ⟨_, rfl⟩
  rw [ex] at H2 ⊢
  clear ex hr
  by_cases h39 : r = 39
  · subst h39
    go_enter Try.func10, Try.ntmps10
    go_wp2
    go_ret
    exact ⟨rfl, Below.refl _ _⟩
  · have h39b : (r == 39) = false := by simpa using h39
    rw [h39b]
    clear h39
    go_enter Try.func10, Try.ntmps10
    go_wp2_with fail
    refine (H2.out _).mono ?_
    rintro e w' ⟨rfl, B⟩
    have HB := hid B
    clear B
    go_wp2
    go_ret
    exact ⟨rfl, HB.out⟩
set_option maxRecDepth 100000 in
set_option maxHeartbeats 4000000 in
theorem pin_over (r : Int) (k : Nat) (hr : U.scal r = true) (hk : 6 < k) (w : World) : Calls Try.prog 10 #[.int .i32 r, .int .u8 k] w fun e W' => e = .returned (.bool (inS r k)) ∧ Below w.heap.size w W' := by
  obtain ⟨h0, h1⟩ := scal_bd hr
  rw [inS_over hk]
  have q6 : ((k : Int) == 6) = false := by simp; omega
  have q5 : ((k : Int) == 5) = false := by simp; omega
  have q4 : ((k : Int) == 4) = false := by simp; omega
  have q2 : ((k : Int) == 2) = false := by simp; omega
  have q0 : ((k : Int) == 0) = false := by simp; omega
  have q3 : ((k : Int) == 3) = false := by simp; omega
  have q1 : ((k : Int) == 1) = false := by simp; omega
  clear hr
  go_enter Try.func10, Try.ntmps10
  go_wp2
  go_ret
  exact ⟨rfl, Below.refl _ _⟩
theorem pin_any (r : Int) (k : Nat) (w : World) (hr : U.scal r = true) : Calls Try.prog 10 #[.int .i32 r, .int .u8 k] w fun e W' => e = .returned (.bool (inS r k)) ∧ Below w.heap.size w W' := by
  by_cases h6 : 6 < k
  · exact pin_over r k hr h6 w
  obtain rfl | rfl | rfl | rfl | rfl | rfl | rfl : k = 0 ∨ k = 1 ∨ k = 2 ∨ k = 3 ∨ k = 4 ∨ k = 5 ∨ k = 6 := by omega
  · exact pin0 r hr w
  · exact pin1 r hr w
  · exact pin2 r hr w
  · exact pin3 r hr w
  · exact pin4 r hr w
  · exact pin5 r hr w
  · exact pin6 r hr w
end Go.Proofs.Ytnkbfpmaifgenaa.E
