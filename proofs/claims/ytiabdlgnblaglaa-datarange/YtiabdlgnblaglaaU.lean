/- The walk of DataRange. -/
import Derived.Test.YtiabdlgnblaglaaT
import Derived.Deep.RegionHeld3
import Derived.OpenShut
namespace Go.Proofs.Ytiabdlgnblaglaa
open Go.RowKit Go.Lib Go.Sort Go.Shelf
set_option linter.unusedVariables false

theorem below_step {w W W1 w' : World} (h : Below w.heap.size w W) (hb : Below W1.heap.size W1 w') (e : W1.heap = W.heap := by rfl) (o : W1.os = W.os := by rfl) (t : W1.tape = W.tape := by rfl) (p : W1.output = W.output := by rfl) : Below w.heap.size w w' := by
  have h1 : Below w.heap.size w W1 := ⟨by rw [o]; exact h.os, by rw [t]; exact h.tape, by rw [p]; exact h.output, by rw [e]; exact h.size, fun i hi => by rw [e]; exact h.block i hi⟩
  exact h1.trans (hb.mono h1.size)

set_option maxRecDepth 100000 in
set_option maxHeartbeats 8000000 in
theorem range_walk (f n : Int) (hf : (Lit.int .i32 f).wf = true) (hn : (Lit.int .u8 n).wf = true) (w : World) : Calls Try.prog 4 #[.int .i32 f, .int .u8 n] w fun e W' => e = .returned (.bool true) ∧ Below w.heap.size w W' := by
  have hfb : -2147483648 ≤ f ∧ f ≤ 2147483647 := bounds_i32 hf
  have hnb : 0 ≤ n ∧ n ≤ 255 := bounds_u8 hn
  obtain ⟨hf0, hf1⟩ := hfb
  obtain ⟨hn0, hn1⟩ := hnb
  clear hf hn
  have HI : Hid ((Try.prog.info? 23).map (·.size) = some 11) := by show _ = _; kernel_rfl
  go_enter Try.func4, Try.ntmps4
  go_wp2_with fail
  go_loopw [5] (fun i wr => ∃ k : Nat, (k : Int) ≤ n ∧ i = .int .i32 (k : Int) ∧ Below w.heap.size w wr) (fun i _ => n.toNat - (intOf i).toNat)
  case atStart => exact ⟨0, by omega, rfl, Below.refl _ _⟩
  case round =>
    obtain ⟨k, hk, rfl, hB⟩ := hrel
    by_cases hlt : (k : Int) < n
    · by_cases hfr : 1114112 < f
      · have hfrb : decide (1114112 < f) = true := by simpa using hfr
        obtain ⟨R, hRR⟩ : ∃ R, R = f - (k : Int) := ⟨_, rfl⟩
        have hP := fnd_prj R
        have hcall := rfind_any R
        obtain ⟨⟨x0, x1, x2, x3, x4, x5, x6, x7, x8, x9, x10⟩, hx⟩ : ∃ x, x = rfnd R := ⟨_, rfl⟩
        rw [← hx] at hP hcall
        have HP : Hid (fnd R = (x0, x1, x2, x6, x7, x8, x9, x10)) := hP
        have HC := hid' hcall
        have HRR := hid' hRR
        clear hP hcall hx hRR
        have k11 : Hid (∀ W : World, Calls Try.prog 11 #[.int .i32 R] W fun e w' => e = .returned (.int .u8 x2) ∧ Below W.heap.size W w') := fun W => by
          have hq := status_any R W
          rw [HP.out] at hq
          exact hq
        have k12 : Hid (∀ W : World, Calls Try.prog 12 #[.int .i32 R] W fun e w' => e = .returned (.int .u8 x6) ∧ Below W.heap.size W w') := fun W => by
          have hq := script_any R W
          rw [HP.out] at hq
          exact hq
        have k13 : Hid (∀ W : World, Calls Try.prog 13 #[.int .i32 R] W fun e w' => e = .returned (.int .u8 x7) ∧ Below W.heap.size W w') := fun W => by
          have hq := bidi_any R W
          rw [HP.out] at hq
          exact hq
        have k14 : Hid (∀ W : World, Calls Try.prog 14 #[.int .i32 R] W fun e w' => e = .returned (.int .u8 x10) ∧ Below W.heap.size W w') := fun W => by
          have hq := joining_any R W
          rw [HP.out] at hq
          exact hq
        have k15 : Hid (∀ W : World, Calls Try.prog 15 #[.int .i32 R] W fun e w' => e = .returned (.int .u8 x8) ∧ Below W.heap.size W w') := fun W => by
          have hq := class_any R W
          rw [HP.out] at hq
          exact hq
        have k16 : Hid (∀ W : World, Calls Try.prog 16 #[.int .i32 R] W fun e w' => e = .returned (.bool x9) ∧ Below W.heap.size W w') := fun W => by
          have hq := mark_any R W
          rw [HP.out] at hq
          exact hq
        go_wp2_with fail
        rw [← HRR.out]
        refine (HC.out _).mono ?_
        simp only [cells11]
        rintro e w1 ⟨rfl, hb1⟩
        have hB1 := hB.trans (hb1.mono hB.size)
        clear HC hb1 hB
        go_wp2_with ((refine wpList_store_row rfl 23 (.tmp 7) (.tmp 23) rfl w1.heap.size #[.int .i32 x0, .int .i32 x1, .int .u8 x2, .int .i32 x3, .int .i32 x4, .int .i32 x5, .int .u8 x6, .int .u8 x7, .int .u8 x8, .bool x9, .int .u8 x10] rfl rfl 23 _ (by exact heap_alloc_last w1 _) (by exact HI.out) (by rfl) (by kernel_rfl) (wpList_nil ?_); rw [World.setRow_alloc_new]))
        obtain ⟨w2, hw2⟩ : ∃ w2, w2 = w1.alloc (.cells #[.int .i32 x0, .int .i32 x1, .int .u8 x2, .int .i32 x3, .int .i32 x4, .int .i32 x5, .int .u8 x6, .int .u8 x7, .int .u8 x8, .bool x9, .int .u8 x10] 23) := ⟨_, rfl⟩
        have hB2 : Below w.heap.size w w2 := by rw [hw2]; exact hB1.alloc hB1.size _
        have HROW0 : Hid (w2.heap[w1.heap.size]? = some (.cells #[.int .i32 x0, .int .i32 x1, .int .u8 x2, .int .i32 x3, .int .i32 x4, .int .i32 x5, .int .u8 x6, .int .u8 x7, .int .u8 x8, .bool x9, .int .u8 x10] 23)) := by show _ = _; rw [hw2]; exact heap_alloc_last w1 _
        obtain ⟨g, hg⟩ : ∃ g, g = w1.heap.size := ⟨_, rfl⟩
        rw [← hw2]
        rw [← hg] at HROW0 ⊢
        have HROW := HROW0
        clear hw2 hg HROW0 hB1
        have d2 : w2.cell? ⟨g, 2, none⟩ = some (.int .u8 x2) := by rw [cell_of_row _ _ _ _ 23 (0, 0) HROW.out]; rfl
        have d6 : w2.cell? ⟨g, 6, none⟩ = some (.int .u8 x6) := by rw [cell_of_row _ _ _ _ 23 (0, 0) HROW.out]; rfl
        have d7 : w2.cell? ⟨g, 7, none⟩ = some (.int .u8 x7) := by rw [cell_of_row _ _ _ _ 23 (0, 0) HROW.out]; rfl
        have d8 : w2.cell? ⟨g, 8, none⟩ = some (.int .u8 x8) := by rw [cell_of_row _ _ _ _ 23 (0, 0) HROW.out]; rfl
        have d9 : w2.cell? ⟨g, 9, none⟩ = some (.bool x9) := by rw [cell_of_row _ _ _ _ 23 (0, 0) HROW.out]; rfl
        have d10 : w2.cell? ⟨g, 10, none⟩ = some (.int .u8 x10) := by rw [cell_of_row _ _ _ _ 23 (0, 0) HROW.out]; rfl
        clear HROW
        have hBB := hB2
        go_region_held3 (fun w' => w'.cell? ⟨g, 2, none⟩ = some (.int .u8 x2) ∧ w'.cell? ⟨g, 6, none⟩ = some (.int .u8 x6) ∧ w'.cell? ⟨g, 7, none⟩ = some (.int .u8 x7) ∧ w'.cell? ⟨g, 8, none⟩ = some (.int .u8 x8) ∧ w'.cell? ⟨g, 9, none⟩ = some (.bool x9) ∧ w'.cell? ⟨g, 10, none⟩ = some (.int .u8 x10))
          (first | go_keep | (go_split_ands; refine ⟨?_, ?_, ?_, ?_, ?_, ?_⟩ <;> (refine (hb.cell (p := _) ?_).trans ?_; rotate_left; assumption; exact lt_of_cell (by assumption))))
          ((first
            | (go_at_call 11; refine (k11.out _).mono ?_; rintro e w' ⟨rfl, hb⟩; replace hBB := below_step hBB hb)
            | (go_at_call 12; refine (k12.out _).mono ?_; rintro e w' ⟨rfl, hb⟩; replace hBB := below_step hBB hb)
            | (go_at_call 13; refine (k13.out _).mono ?_; rintro e w' ⟨rfl, hb⟩; replace hBB := below_step hBB hb)
            | (go_at_call 14; refine (k14.out _).mono ?_; rintro e w' ⟨rfl, hb⟩; replace hBB := below_step hBB hb)
            | (go_at_call 15; refine (k15.out _).mono ?_; rintro e w' ⟨rfl, hb⟩; replace hBB := below_step hBB hb)
            | (go_at_call 16; refine (k16.out _).mono ?_; rintro e w' ⟨rfl, hb⟩; replace hBB := below_step hBB hb)
            | (go_at_call 18; refine (map_any R _).mono ?_; rintro e w' ⟨⟨va, rfl, hva⟩, hb⟩; replace hBB := below_step hBB hb)
            | (go_at_call 19; refine (rmap_any R _).mono ?_; rw [rmp_eq]; rintro e w' ⟨⟨vb, rfl, hvb⟩, hb⟩; have hvc := hva.below hb (Nat.le_refl _); replace hBB := below_step hBB hb)
            | (go_at_call 20; refine (decomp_any R _).mono ?_; rintro e w' ⟨⟨va, rfl, hva⟩, hb⟩; replace hBB := below_step hBB hb)
            | (go_at_call 21; refine (rdecomp_any R _).mono ?_; rw [rdcp_eq]; rintro e w' ⟨⟨vb, rfl, hvb⟩, hb⟩; have hvc := hva.below hb (Nat.le_refl _); replace hBB := below_step hBB hb)
            | (go_at_call 17; refine (runes_same _ _ (mp R) (mp_len' R) _ hvc hvb).mono ?_; rintro e w' ⟨rfl, hb⟩; replace hBB := below_step hBB hb)
            | (go_at_call 17; refine (runes_same _ _ (dcp R) (dcp_len' R) _ hvc hvb).mono ?_; rintro e w' ⟨rfl, hb⟩; replace hBB := below_step hBB hb)))
        go_wp2
        go_roundw
        case rel => exact ⟨k + 1, by omega, by go_num, hBB⟩
        case measure => simp [intOf]; omega
      · have hfrb : decide (1114112 < f) = false := by simpa using hfr
        obtain ⟨R, hRR⟩ : ∃ R, R = f + (k : Int) := ⟨_, rfl⟩
        have hP := fnd_prj R
        have hcall := rfind_any R
        obtain ⟨⟨x0, x1, x2, x3, x4, x5, x6, x7, x8, x9, x10⟩, hx⟩ : ∃ x, x = rfnd R := ⟨_, rfl⟩
        rw [← hx] at hP hcall
        have HP : Hid (fnd R = (x0, x1, x2, x6, x7, x8, x9, x10)) := hP
        have HC := hid' hcall
        have HRR := hid' hRR
        clear hP hcall hx hRR
        have k11 : Hid (∀ W : World, Calls Try.prog 11 #[.int .i32 R] W fun e w' => e = .returned (.int .u8 x2) ∧ Below W.heap.size W w') := fun W => by
          have hq := status_any R W
          rw [HP.out] at hq
          exact hq
        have k12 : Hid (∀ W : World, Calls Try.prog 12 #[.int .i32 R] W fun e w' => e = .returned (.int .u8 x6) ∧ Below W.heap.size W w') := fun W => by
          have hq := script_any R W
          rw [HP.out] at hq
          exact hq
        have k13 : Hid (∀ W : World, Calls Try.prog 13 #[.int .i32 R] W fun e w' => e = .returned (.int .u8 x7) ∧ Below W.heap.size W w') := fun W => by
          have hq := bidi_any R W
          rw [HP.out] at hq
          exact hq
        have k14 : Hid (∀ W : World, Calls Try.prog 14 #[.int .i32 R] W fun e w' => e = .returned (.int .u8 x10) ∧ Below W.heap.size W w') := fun W => by
          have hq := joining_any R W
          rw [HP.out] at hq
          exact hq
        have k15 : Hid (∀ W : World, Calls Try.prog 15 #[.int .i32 R] W fun e w' => e = .returned (.int .u8 x8) ∧ Below W.heap.size W w') := fun W => by
          have hq := class_any R W
          rw [HP.out] at hq
          exact hq
        have k16 : Hid (∀ W : World, Calls Try.prog 16 #[.int .i32 R] W fun e w' => e = .returned (.bool x9) ∧ Below W.heap.size W w') := fun W => by
          have hq := mark_any R W
          rw [HP.out] at hq
          exact hq
        go_wp2_with fail
        rw [← HRR.out]
        refine (HC.out _).mono ?_
        simp only [cells11]
        rintro e w1 ⟨rfl, hb1⟩
        have hB1 := hB.trans (hb1.mono hB.size)
        clear HC hb1 hB
        go_wp2_with ((refine wpList_store_row rfl 23 (.tmp 7) (.tmp 23) rfl w1.heap.size #[.int .i32 x0, .int .i32 x1, .int .u8 x2, .int .i32 x3, .int .i32 x4, .int .i32 x5, .int .u8 x6, .int .u8 x7, .int .u8 x8, .bool x9, .int .u8 x10] rfl rfl 23 _ (by exact heap_alloc_last w1 _) (by exact HI.out) (by rfl) (by kernel_rfl) (wpList_nil ?_); rw [World.setRow_alloc_new]))
        obtain ⟨w2, hw2⟩ : ∃ w2, w2 = w1.alloc (.cells #[.int .i32 x0, .int .i32 x1, .int .u8 x2, .int .i32 x3, .int .i32 x4, .int .i32 x5, .int .u8 x6, .int .u8 x7, .int .u8 x8, .bool x9, .int .u8 x10] 23) := ⟨_, rfl⟩
        have hB2 : Below w.heap.size w w2 := by rw [hw2]; exact hB1.alloc hB1.size _
        have HROW0 : Hid (w2.heap[w1.heap.size]? = some (.cells #[.int .i32 x0, .int .i32 x1, .int .u8 x2, .int .i32 x3, .int .i32 x4, .int .i32 x5, .int .u8 x6, .int .u8 x7, .int .u8 x8, .bool x9, .int .u8 x10] 23)) := by show _ = _; rw [hw2]; exact heap_alloc_last w1 _
        obtain ⟨g, hg⟩ : ∃ g, g = w1.heap.size := ⟨_, rfl⟩
        rw [← hw2]
        rw [← hg] at HROW0 ⊢
        have HROW := HROW0
        clear hw2 hg HROW0 hB1
        have d2 : w2.cell? ⟨g, 2, none⟩ = some (.int .u8 x2) := by rw [cell_of_row _ _ _ _ 23 (0, 0) HROW.out]; rfl
        have d6 : w2.cell? ⟨g, 6, none⟩ = some (.int .u8 x6) := by rw [cell_of_row _ _ _ _ 23 (0, 0) HROW.out]; rfl
        have d7 : w2.cell? ⟨g, 7, none⟩ = some (.int .u8 x7) := by rw [cell_of_row _ _ _ _ 23 (0, 0) HROW.out]; rfl
        have d8 : w2.cell? ⟨g, 8, none⟩ = some (.int .u8 x8) := by rw [cell_of_row _ _ _ _ 23 (0, 0) HROW.out]; rfl
        have d9 : w2.cell? ⟨g, 9, none⟩ = some (.bool x9) := by rw [cell_of_row _ _ _ _ 23 (0, 0) HROW.out]; rfl
        have d10 : w2.cell? ⟨g, 10, none⟩ = some (.int .u8 x10) := by rw [cell_of_row _ _ _ _ 23 (0, 0) HROW.out]; rfl
        clear HROW
        have hBB := hB2
        go_region_held3 (fun w' => w'.cell? ⟨g, 2, none⟩ = some (.int .u8 x2) ∧ w'.cell? ⟨g, 6, none⟩ = some (.int .u8 x6) ∧ w'.cell? ⟨g, 7, none⟩ = some (.int .u8 x7) ∧ w'.cell? ⟨g, 8, none⟩ = some (.int .u8 x8) ∧ w'.cell? ⟨g, 9, none⟩ = some (.bool x9) ∧ w'.cell? ⟨g, 10, none⟩ = some (.int .u8 x10))
          (first | go_keep | (go_split_ands; refine ⟨?_, ?_, ?_, ?_, ?_, ?_⟩ <;> (refine (hb.cell (p := _) ?_).trans ?_; rotate_left; assumption; exact lt_of_cell (by assumption))))
          ((first
            | (go_at_call 11; refine (k11.out _).mono ?_; rintro e w' ⟨rfl, hb⟩; replace hBB := below_step hBB hb)
            | (go_at_call 12; refine (k12.out _).mono ?_; rintro e w' ⟨rfl, hb⟩; replace hBB := below_step hBB hb)
            | (go_at_call 13; refine (k13.out _).mono ?_; rintro e w' ⟨rfl, hb⟩; replace hBB := below_step hBB hb)
            | (go_at_call 14; refine (k14.out _).mono ?_; rintro e w' ⟨rfl, hb⟩; replace hBB := below_step hBB hb)
            | (go_at_call 15; refine (k15.out _).mono ?_; rintro e w' ⟨rfl, hb⟩; replace hBB := below_step hBB hb)
            | (go_at_call 16; refine (k16.out _).mono ?_; rintro e w' ⟨rfl, hb⟩; replace hBB := below_step hBB hb)
            | (go_at_call 18; refine (map_any R _).mono ?_; rintro e w' ⟨⟨va, rfl, hva⟩, hb⟩; replace hBB := below_step hBB hb)
            | (go_at_call 19; refine (rmap_any R _).mono ?_; rw [rmp_eq]; rintro e w' ⟨⟨vb, rfl, hvb⟩, hb⟩; have hvc := hva.below hb (Nat.le_refl _); replace hBB := below_step hBB hb)
            | (go_at_call 20; refine (decomp_any R _).mono ?_; rintro e w' ⟨⟨va, rfl, hva⟩, hb⟩; replace hBB := below_step hBB hb)
            | (go_at_call 21; refine (rdecomp_any R _).mono ?_; rw [rdcp_eq]; rintro e w' ⟨⟨vb, rfl, hvb⟩, hb⟩; have hvc := hva.below hb (Nat.le_refl _); replace hBB := below_step hBB hb)
            | (go_at_call 17; refine (runes_same _ _ (mp R) (mp_len' R) _ hvc hvb).mono ?_; rintro e w' ⟨rfl, hb⟩; replace hBB := below_step hBB hb)
            | (go_at_call 17; refine (runes_same _ _ (dcp R) (dcp_len' R) _ hvc hvb).mono ?_; rintro e w' ⟨rfl, hb⟩; replace hBB := below_step hBB hb)))
        go_wp2
        go_roundw
        case rel => exact ⟨k + 1, by omega, by go_num, hBB⟩
        case measure => simp [intOf]; omega
    · have hlt' : decide ((k : Int) < n) = false := by simpa using hlt
      go_wp2_with fail
      refine (works_any _).mono ?_
      rintro e w7 ⟨rfl, hb7⟩
      go_wp2
      go_ret
      exact ⟨rfl, hB.trans (hb7.mono hB.size)⟩
end Go.Proofs.Ytiabdlgnblaglaa
