/- The contracts of the statements' own helpers: runes (two like lists), works. -/
import Derived.Test.YtiabdlgnblaglaaG
namespace Go.Proofs.Ytiabdlgnblaglaa
open Go.RowKit Go.Lib Go.Sort Go.Shelf
set_option linter.unusedVariables false

set_option maxRecDepth 100000 in
set_option maxHeartbeats 1000000 in
theorem runes_some (b off cap b' off' cap' : Nat) (zs : List Int) (hlen : zs.length ≤ 17179869184) (w : World)
    (hc : ∀ j, j < zs.length → w.cell? ⟨b, off + j, none⟩ = some (.int .i32 (zs[j]?.getD 0))) (hd : ∀ j, j < zs.length → w.cell? ⟨b', off' + j, none⟩ = some (.int .i32 (zs[j]?.getD 0))) :
    Calls Try.prog 17 #[.slice (some ⟨b, off, none⟩) zs.length cap, .slice (some ⟨b', off', none⟩) zs.length cap'] w fun e W' => e = .returned (.bool true) ∧ ∃ n, W' = w.drewN n := by
  go_enter Try.func17, Try.ntmps17
  go_wp2_with fail
  go_loopw [5] (fun i wr => ∃ k n : Nat, k ≤ zs.length ∧ i = .int .i64 k ∧ wr = w.drewN n) (fun i _ => zs.length - (intOf i).toNat)
  case atStart => exact ⟨0, 0, Nat.zero_le _, rfl, rfl⟩
  case round =>
    obtain ⟨k, n, hk, rfl, rfl⟩ := hrel
    by_cases hlt : k < zs.length
    · have c1 : (w.drewN n).cell? ⟨b, off + k, none⟩ = some (.int .i32 (zs[k]?.getD 0)) := hc k hlt
      have c2 : (w.drewN n).cell? ⟨b', off' + k, none⟩ = some (.int .i32 (zs[k]?.getD 0)) := hd k hlt
      generalize zs[k]?.getD 0 = c at c1 c2
      go_wp2_with fail
      go_quiet (fail)
      go_wp2
      go_roundw
      case rel => exact ⟨k + 1, n + nq, by omega, by go_num, rfl⟩
      case measure => simp [intOf]; omega
    · go_wp2
      go_ret
      exact ⟨rfl, n, rfl⟩

set_option maxRecDepth 100000 in
set_option maxHeartbeats 1000000 in
theorem runes_none (a a' : Option Addr) (cap cap' : Nat) (w : World) :
    Calls Try.prog 17 #[.slice a 0 cap, .slice a' 0 cap'] w fun e W' => e = .returned (.bool true) ∧ ∃ n, W' = w.drewN n := by
  go_enter Try.func17, Try.ntmps17
  go_wp2_with fail
  refine wp_loop_rounds 1 ?_
  rw [rounds_succ]
  go_wp2
  go_ret
  exact ⟨rfl, 0, rfl⟩

/-- runes answers true where both lead to the same numbers. -/
theorem runes_same (v v' : Value) (zs : List Int) (hlen : zs.length ≤ 17179869184) (w : World) (hv : IntsAt w v zs) (hv' : IntsAt w v' zs) :
    Calls Try.prog 17 #[v, v'] w fun e W' => e = .returned (.bool true) ∧ Below w.heap.size w W' := by
  obtain ⟨a, cap, rfl, -, hc⟩ := hv
  obtain ⟨a', cap', rfl, -, hc'⟩ := hv'
  have key : Calls Try.prog 17 #[.slice a zs.length cap, .slice a' zs.length cap'] w fun e W' => e = .returned (.bool true) ∧ ∃ n, W' = w.drewN n := by
    by_cases hp : 0 < zs.length
    · obtain ⟨b, off, rfl, h1⟩ := hc hp
      obtain ⟨b', off', rfl, h2⟩ := hc' hp
      exact runes_some b off cap b' off' cap' zs hlen w h1 h2
    · obtain rfl : zs = [] := List.eq_nil_of_length_eq_zero (by omega)
      exact runes_none a a' cap cap' w
  refine key.mono ?_
  rintro e W' ⟨rfl, n, rfl⟩
  exact ⟨rfl, below_drewN (Below.refl _ _) n⟩

set_option maxRecDepth 100000 in
set_option maxHeartbeats 3200000 in
theorem works_any (w : World) : Calls Try.prog 24 #[] w fun e W' => e = .returned (.bool true) ∧ Below w.heap.size w W' := by
  go_enter Try.func24, Try.ntmps24
  go_wp2_with fail
  refine (pair_any 115 803 _).mono ?_
  rw [show prf prs 115 803 = (7779, true) by kernel_rfl]
  rintro e w1 ⟨rfl, hB1⟩
  go_wp2_with fail
  refine (map_any 7838 _).mono ?_
  rw [show mp 7838 = [115, 115] by kernel_rfl]
  rintro e w2 ⟨⟨v2, rfl, hv2⟩, hb2⟩
  have hB2 := hB1.trans (hb2.mono hB1.size)
  obtain ⟨a2, c2, rfl, -, -⟩ := hv2
  clear hb2 hB1
  go_wp2_with fail
  refine (like_any 109 _).mono ?_
  rw [show lk 109 = [114, 110] by kernel_rfl]
  rintro e w3 ⟨⟨v3, rfl, hv3⟩, hb3⟩
  have hB3 := hB2.trans (hb3.mono hB2.size)
  clear hb3 hB2
  obtain ⟨a3, c3, rfl⟩ : ∃ a c, v3 = .slice a 2 c := by obtain ⟨a, c, e, _⟩ := hv3; exact ⟨a, c, e⟩
  go_wp2_with fail
  refine (status_any 97 _).mono ?_
  rw [show (fnd 97).2.2.1 = 1 by kernel_rfl]
  rintro e w4 ⟨rfl, hb4⟩
  have hB4 := hB3.trans (hb4.mono hB3.size)
  replace hv3 := hv3.below hb4 (Nat.le_refl _)
  clear hb4 hB3
  go_wp2_with fail
  refine (status_any 65 _).mono ?_
  rw [show (fnd 65).2.2.1 = 3 by kernel_rfl]
  rintro e w5 ⟨rfl, hb5⟩
  have hB5 := hB4.trans (hb5.mono hB4.size)
  replace hv3 := hv3.below hb5 (Nat.le_refl _)
  clear hb5 hB4
  go_wp2_with fail
  refine (status_any 47 _).mono ?_
  rw [show (fnd 47).2.2.1 = 0 by kernel_rfl]
  rintro e w6 ⟨rfl, hb6⟩
  have hB6 := hB5.trans (hb6.mono hB5.size)
  replace hv3 := hv3.below hb6 (Nat.le_refl _)
  clear hb6 hB5
  obtain ⟨b3, o3, rfl, c0⟩ : ∃ b o, a3 = some ⟨b, o, none⟩ ∧ w6.cell? ⟨b, o, none⟩ = some (.int .i32 114) := by
    obtain ⟨a, c, e, _, h⟩ := hv3
    obtain ⟨b, o, rfl, g⟩ := h (by simp)
    have := g 0 (by simp)
    cases e
    exact ⟨b, o, rfl, this⟩
  clear hv3
  go_wp2_with fail
  refine (bidi_any 1488 _).mono ?_
  rw [show (fnd 1488).2.2.2.2.1 = 2 by kernel_rfl]
  rintro e w7 ⟨rfl, hb7⟩
  have hB7 := hB6.trans (hb7.mono hB6.size)
  clear hb7 hB6
  clear c0
  go_wp2_with fail
  refine (joining_any 1576 _).mono ?_
  rw [show (fnd 1576).2.2.2.2.2.2.2 = 3 by kernel_rfl]
  rintro e w8 ⟨rfl, hb8⟩
  have hB8 := hB7.trans (hb8.mono hB7.size)
  clear hb8 hB7
  go_wp2_with fail
  refine (class_any 803 _).mono ?_
  rw [show (fnd 803).2.2.2.2.2.1 = 220 by kernel_rfl]
  rintro e w9 ⟨rfl, hb9⟩
  have hB9 := hB8.trans (hb9.mono hB8.size)
  clear hb9 hB8
  go_wp2_with fail
  refine (script_any 12353 _).mono ?_
  rw [show (fnd 12353).2.2.2.1 = 8 by kernel_rfl]
  rintro e w10 ⟨rfl, hb10⟩
  have hB10 := hB9.trans (hb10.mono hB9.size)
  clear hb10 hB9
  go_wp2
  go_ret
  exact ⟨rfl, hB10⟩
end Go.Proofs.Ytiabdlgnblaglaa
