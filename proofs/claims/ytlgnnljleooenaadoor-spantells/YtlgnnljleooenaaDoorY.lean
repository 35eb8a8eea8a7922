/- The contracts of the document's answer: Check, Has, counts. -/
import Derived.Test.YtlgnnljleooenaaDoorC
namespace Go.Proofs.YtlgnnljleooenaaDoor
open Go.RowKit
set_option linter.unusedVariables false

set_option maxRecDepth 100000 in
set_option maxHeartbeats 1600000 in
theorem rcheck_any (v : Value) (l : List Sp) (hlen : l.length ≤ 140737488355328) (w : World) (hv : SpansAt w v l) :
    Calls Tryd.prog 19 #[v] w fun e W' => e = .returned (.int .i64 (chk l)) ∧ ∃ n, W' = w.drewN n := by
  obtain ⟨a, cap, rfl, -, hs⟩ := hv
  by_cases hlong : 1024 < l.length
  · have H : Hid (chk l = 4) := chk_long l hlong
    go_enter Tryd.func19, Tryd.ntmps19
    go_wp2
    go_ret
    exact ⟨by rw [H.out]; rfl, 0, rfl⟩
  · go_enter Tryd.func19, Tryd.ntmps19
    go_wp2_with fail
    go_loopw [3] (fun i wr => ∃ k : Nat, k ≤ l.length ∧ i = .int .i64 k ∧ (l.take k).all ok1 = true ∧ ∃ q, wr = w.drewN q)
      (fun i _ => l.length - (intOf i).toNat)
    case atStart => exact ⟨0, Nat.zero_le _, rfl, by simp, 0, rfl⟩
    case round =>
      obtain ⟨k, hk, rfl, hall, q, rfl⟩ := hrel
      have HA : Hid ((l.take k).all ok1 = true) := hall
      clear hall
      by_cases hlt : k < l.length
      · obtain ⟨b, off, rfl, hc⟩ := hs (by omega)
        obtain ⟨x, y, HX, c1, c2, hb⟩ := SpansAt.elem (cap := cap) hlt (Below.refl _ w) hc
        clear hc hs
        have b0 : (0 : Int) ≤ (k : Int) := by omega
        have b1 : (k : Int) < (l.length : Int) := by omega
        cases hok : ok1 (x, y) with
        | true =>
          obtain ⟨h1, h2, h3⟩ := ok1_true_of _ hok
          have HO : Hid (ok1 (x, y) = true) := hok
          clear hok
          dsimp only at h1 h2 h3
          have d1 : decide (x < 0) = false := by simpa using h1
          have d2 : decide (y < x) = false := by simpa using h2
          have d3 : decide (1114111 < y) = false := by simpa using h3
          go_wp2_with fail
          go_quiet (fail)
          go_wp2
          go_roundw
          case rel => exact ⟨k + 1, by omega, by go_num, all_take_succ ok1 (0, 0) l k hlt HA.out (by rw [HX.out]; exact HO.out), _, rfl⟩
          case measure => simp [intOf]; omega
        | false =>
          have hx := ok1_false_of _ hok
          have HO : Hid (chk l = 2) := chk_arg l hlong (all_false_at ok1 (0, 0) l k hlt (by rw [HX.out]; exact hok))
          clear hok
          dsimp only at hx
          by_cases e1 : x < 0
          · have d1 : decide (x < 0) = true := by simpa using e1
            go_wp2_with fail
            go_quiet (fail)
            go_wp2
            go_ret
            exact ⟨by rw [HO.out]; rfl, _, World.drewN_drewN _ _ _⟩
          · have d1 : decide (x < 0) = false := by simpa using e1
            by_cases e2 : y < x
            · have d2 : decide (y < x) = true := by simpa using e2
              go_wp2_with fail
              go_quiet (fail)
              go_wp2
              go_ret
              exact ⟨by rw [HO.out]; rfl, _, World.drewN_drewN _ _ _⟩
            · have d2 : decide (y < x) = false := by simpa using e2
              have e3 : 1114111 < y := by omega
              have d3 : decide (1114111 < y) = true := by simpa using e3
              go_wp2_with fail
              go_quiet (fail)
              go_wp2
              go_ret
              exact ⟨by rw [HO.out]; rfl, _, World.drewN_drewN _ _ _⟩
      · have hkk : k = l.length := by omega
        have HO : Hid (chk l = 0) := chk_ok l hlong (by have := HA.out; rwa [hkk, List.take_length] at this)
        clear hkk
        go_wp2
        go_ret
        exact ⟨by rw [HO.out]; rfl, _, rfl⟩

set_option maxRecDepth 100000 in
set_option maxHeartbeats 1600000 in
theorem rhas_any (v : Value) (l : List Sp) (r : Int) (hlen : l.length ≤ 140737488355328) (w : World) (hv : SpansAt w v l) :
    Calls Tryd.prog 22 #[v, .int .i32 r] w fun e W' => e = .returned (.bool (hasP l r)) ∧ W' = w := by
  obtain ⟨a, cap, rfl, -, hs⟩ := hv
  go_enter Tryd.func22, Tryd.ntmps22
  go_wp2_with fail
  go_loop [5] (fun i => ∃ k : Nat, k ≤ l.length ∧ i = .int .i64 k ∧ Hid (hasP (l.take k) r = false)) (fun i => l.length - (intOf i).toNat)
  case atStart => exact ⟨0, Nat.zero_le _, rfl, by show _ = _; simp [hasP]⟩
  case round =>
    obtain ⟨k, hk, rfl, HA⟩ := hrel
    by_cases hlt : k < l.length
    · obtain ⟨b, off, rfl, hc⟩ := hs (by omega)
      obtain ⟨x, y, HX, c1, c2, hb⟩ := SpansAt.elem (cap := cap) hlt (Below.refl _ w) hc
      clear hc hs
      by_cases hr : x ≤ r ∧ r ≤ y
      · have HO : Hid (hasP l r = true) := hasP_at r l k hlt x y HX.out hr
        obtain ⟨h1, h2⟩ := hr
        go_wp2
        go_ret
        exact ⟨by rw [HO.out]; rfl, rfl⟩
      · have HR : Hid (¬ (x ≤ r ∧ r ≤ y)) := hr
        by_cases h1 : x ≤ r
        · have h2 : y < r := by omega
          clear hr
          go_wp2
          go_round
          case rel => exact ⟨k + 1, by omega, by go_num, hasP_take_succ r l k hlt HA.out x y HX.out HR.out⟩
          case measure => simp [intOf]; omega
        · have h2 : r < x := by omega
          clear hr h1
          go_wp2
          go_round
          case rel => exact ⟨k + 1, by omega, by go_num, hasP_take_succ r l k hlt HA.out x y HX.out HR.out⟩
          case measure => simp [intOf]; omega
    · have hkk : k = l.length := by omega
      have HO : Hid (hasP l r = false) := by have := HA.out; rwa [hkk, List.take_length] at this
      clear hkk
      go_wp2
      go_ret
      exact ⟨by rw [HO.out]; rfl, rfl⟩

/-- The ways to put two sets together, by their numbers. -/
def how (h : Int) (x y : Bool) : Bool := if h = 0 then x || y else if h = 1 then x && y else if h = 2 then x && !y else !x
set_option maxRecDepth 100000 in
theorem rcounts_any (h : Int) (hh : h = 0 ∨ h = 1 ∨ h = 2 ∨ h = 3) (x y : Bool) (w : World) :
    Calls Tryd.prog 36 #[.int .i64 h, .bool x, .bool y] w fun e W' => e = .returned (.bool (how h x y)) ∧ W' = w := by
  rcases hh with rfl | rfl | rfl | rfl
  all_goals
    cases x
    all_goals
      go_enter Tryd.func36, Tryd.ntmps36
      go_wp2
      go_ret
      exact ⟨by simp [how], rfl⟩
end Go.Proofs.YtlgnnljleooenaaDoor
