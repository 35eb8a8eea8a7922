/- The walk of DataTells. -/
import Derived.Test.YtiabdlgnblaglaaS
import Derived.Test.YtiabdlgnblaglaaL
namespace Go.Proofs.Ytiabdlgnblaglaa
open Go.RowKit Go.Lib Go.Sort Go.Shelf
set_option linter.unusedVariables false

theorem lk_len (r : Int) : (lk r).length ≤ 17179869184 := by have := lk_pos r; omega
theorem mp_len' (r : Int) : (mp r).length ≤ 17179869184 := by have := mp_len r; omega
theorem dcp_len' (r : Int) : (dcp r).length ≤ 17179869184 := by
  rcases dcp_cases r with h | ⟨p, q, h, _⟩
  · omega
  · rw [h]; simp

set_option maxRecDepth 100000 in
set_option maxHeartbeats 4000000 in
theorem tells_walk (r s : Int) (w : World) : Calls Try.prog 3 #[.int .i32 r, .int .i32 s] w fun e W' => e = .returned (.bool true) ∧ Below w.heap.size w W' := by
  have hP := fnd_prj r
  have hcall := rfind_any r
  obtain ⟨⟨x0, x1, x2, x3, x4, x5, x6, x7, x8, x9, x10⟩, hx⟩ : ∃ x, x = rfnd r := ⟨_, rfl⟩
  rw [← hx] at hP hcall
  have HP : Hid (fnd r = (x0, x1, x2, x6, x7, x8, x9, x10)) := hP
  have HC := hid' hcall
  clear hP hcall hx
  obtain ⟨⟨R1, R2⟩, hR⟩ : ∃ R, R = prf prs r s := ⟨_, rfl⟩
  have HR := hid' hR
  clear hR
  have HI : Hid ((Try.prog.info? 23).map (·.size) = some 11) := by show _ = _; kernel_rfl
  go_enter Try.func3, Try.ntmps3
  go_wp2_with fail
  refine (HC.out _).mono ?_
  simp only [cells11]
  rintro e w1 ⟨rfl, hB1⟩
  clear HC
  go_wp2_with ((refine wpList_store_row rfl 23 (.tmp 5) (.tmp 12) rfl w1.heap.size #[.int .i32 x0, .int .i32 x1, .int .u8 x2, .int .i32 x3, .int .i32 x4, .int .i32 x5, .int .u8 x6, .int .u8 x7, .int .u8 x8, .bool x9, .int .u8 x10] rfl rfl 23 _ (by exact heap_alloc_last w1 _) (by exact HI.out) (by rfl) (by kernel_rfl) (wpList_nil ?_); rw [World.setRow_alloc_new]))
  refine (pair_any r s _).mono ?_
  rw [← HR.out]
  rintro e w2 ⟨rfl, hb2⟩
  have HROW2 : Hid (w2.heap[w1.heap.size]? = some (.cells #[.int .i32 x0, .int .i32 x1, .int .u8 x2, .int .i32 x3, .int .i32 x4, .int .i32 x5, .int .u8 x6, .int .u8 x7, .int .u8 x8, .bool x9, .int .u8 x10] 23)) := (hb2.block _ (by simp)).trans (heap_alloc_last w1 _)
  have hB1' := hB1.alloc hB1.size (.cells #[.int .i32 x0, .int .i32 x1, .int .u8 x2, .int .i32 x3, .int .i32 x4, .int .i32 x5, .int .u8 x6, .int .u8 x7, .int .u8 x8, .bool x9, .int .u8 x10] 23)
  have hB2 : Below w.heap.size w w2 := hB1'.trans (hb2.mono hB1'.size)
  have hz2 : w1.heap.size < w2.heap.size := by have := hb2.size; simp at this; omega
  clear hb2 hB1 hB1'
  go_wp2_with fail
  refine (rpair_any r s _).mono ?_
  rw [ptab_prs, ← HR.out]
  rintro e w3 ⟨rfl, hb3⟩
  have HROW : Hid (w3.heap[w1.heap.size]? = some (.cells #[.int .i32 x0, .int .i32 x1, .int .u8 x2, .int .i32 x3, .int .i32 x4, .int .i32 x5, .int .u8 x6, .int .u8 x7, .int .u8 x8, .bool x9, .int .u8 x10] 23)) := (hb3.block _ hz2).trans HROW2.out
  have hB3 := hB2.trans (hb3.mono hB2.size)
  clear hb3 hB2 hz2 HROW2
  have d2 : w3.cell? ⟨w1.heap.size, 2, none⟩ = some (.int .u8 x2) := by rw [cell_of_row _ _ _ _ 23 (0, 0) HROW.out]; rfl
  have d6 : w3.cell? ⟨w1.heap.size, 6, none⟩ = some (.int .u8 x6) := by rw [cell_of_row _ _ _ _ 23 (0, 0) HROW.out]; rfl
  have d7 : w3.cell? ⟨w1.heap.size, 7, none⟩ = some (.int .u8 x7) := by rw [cell_of_row _ _ _ _ 23 (0, 0) HROW.out]; rfl
  have d8 : w3.cell? ⟨w1.heap.size, 8, none⟩ = some (.int .u8 x8) := by rw [cell_of_row _ _ _ _ 23 (0, 0) HROW.out]; rfl
  have d9 : w3.cell? ⟨w1.heap.size, 9, none⟩ = some (.bool x9) := by rw [cell_of_row _ _ _ _ 23 (0, 0) HROW.out]; rfl
  have d10 : w3.cell? ⟨w1.heap.size, 10, none⟩ = some (.int .u8 x10) := by rw [cell_of_row _ _ _ _ 23 (0, 0) HROW.out]; rfl
  have hne : Nonempty (Later w3) := ⟨⟨w3, Below.refl _ _⟩⟩
  have k11 : Hid (∀ W : World, Calls Try.prog 11 #[.int .i32 r] W fun e w' => e = .returned (.int .u8 x2) ∧ Below W.heap.size W w') := fun W => by
    have hq := status_any r W
    rw [HP.out] at hq
    exact hq
  have k12 : Hid (∀ W : World, Calls Try.prog 12 #[.int .i32 r] W fun e w' => e = .returned (.int .u8 x6) ∧ Below W.heap.size W w') := fun W => by
    have hq := script_any r W
    rw [HP.out] at hq
    exact hq
  have k13 : Hid (∀ W : World, Calls Try.prog 13 #[.int .i32 r] W fun e w' => e = .returned (.int .u8 x7) ∧ Below W.heap.size W w') := fun W => by
    have hq := bidi_any r W
    rw [HP.out] at hq
    exact hq
  have k14 : Hid (∀ W : World, Calls Try.prog 14 #[.int .i32 r] W fun e w' => e = .returned (.int .u8 x10) ∧ Below W.heap.size W w') := fun W => by
    have hq := joining_any r W
    rw [HP.out] at hq
    exact hq
  have k15 : Hid (∀ W : World, Calls Try.prog 15 #[.int .i32 r] W fun e w' => e = .returned (.int .u8 x8) ∧ Below W.heap.size W w') := fun W => by
    have hq := class_any r W
    rw [HP.out] at hq
    exact hq
  have k16 : Hid (∀ W : World, Calls Try.prog 16 #[.int .i32 r] W fun e w' => e = .returned (.bool x9) ∧ Below W.heap.size W w') := fun W => by
    have hq := mark_any r W
    rw [HP.out] at hq
    exact hq
  have y2 : ∀ x : Later w3, x.W.cell? ⟨w1.heap.size, 2, none⟩ = some (.int .u8 x2) := fun x => (x.h.cell (p := ⟨w1.heap.size, 2, none⟩) (lt_of_cell d2)).trans d2
  have y6 : ∀ x : Later w3, x.W.cell? ⟨w1.heap.size, 6, none⟩ = some (.int .u8 x6) := fun x => (x.h.cell (p := ⟨w1.heap.size, 6, none⟩) (lt_of_cell d6)).trans d6
  have y7 : ∀ x : Later w3, x.W.cell? ⟨w1.heap.size, 7, none⟩ = some (.int .u8 x7) := fun x => (x.h.cell (p := ⟨w1.heap.size, 7, none⟩) (lt_of_cell d7)).trans d7
  have y8 : ∀ x : Later w3, x.W.cell? ⟨w1.heap.size, 8, none⟩ = some (.int .u8 x8) := fun x => (x.h.cell (p := ⟨w1.heap.size, 8, none⟩) (lt_of_cell d8)).trans d8
  have y9 : ∀ x : Later w3, x.W.cell? ⟨w1.heap.size, 9, none⟩ = some (.bool x9) := fun x => (x.h.cell (p := ⟨w1.heap.size, 9, none⟩) (lt_of_cell d9)).trans d9
  have y10 : ∀ x : Later w3, x.W.cell? ⟨w1.heap.size, 10, none⟩ = some (.int .u8 x10) := fun x => (x.h.cell (p := ⟨w1.heap.size, 10, none⟩) (lt_of_cell d10)).trans d10
  clear d2 d6 d7 d8 d9 d10 HROW
  go_wp2_with fail
  refine wp_region_quiet_in (by kernel_rfl) (by kernel_rfl) ?_
  repeat (go_big_quiet_step ((first | (go_at_call 11; exact Later.call _ (k11.out _)) | (go_at_call 12; exact Later.call _ (k12.out _)) | (go_at_call 13; exact Later.call _ (k13.out _)) | (go_at_call 14; exact Later.call _ (k14.out _)) | (go_at_call 15; exact Later.call _ (k15.out _)) | (go_at_call 16; exact Later.call _ (k16.out _)))))
  refine wpQuiet_nil ?_
  rintro _ ⟨x, rfl⟩
  have hB4 : Below w.heap.size w x.W := hB3.trans (x.h.mono hB3.size)
  obtain ⟨w4, hw4⟩ : ∃ w4, w4 = x.W := ⟨_, rfl⟩
  rw [← hw4] at hB4 ⊢
  clear hw4 x y2 y6 y7 y8 y9 y10 hne k11 k12 k13 k14 k15 k16 hB3
  go_wp2_with fail
  refine (map_any r _).mono ?_
  rintro e w5 ⟨⟨v5, rfl, hv5⟩, hb5⟩
  have hB5 := hB4.trans (hb5.mono hB4.size)
  clear hb5 hB4
  go_wp2_with fail
  refine (rmap_any r _).mono ?_
  rw [rmp_eq]
  rintro e w6 ⟨⟨v6, rfl, hv6⟩, hb6⟩
  have hB6 := hB5.trans (hb6.mono hB5.size)
  have hu5 := hv5.below hb6 (Nat.le_refl _)
  clear hb6 hB5 hv5
  go_wp2_with fail
  refine (runes_same _ _ (mp r) (mp_len' r) _ hu5 hv6).mono ?_
  rintro e w7 ⟨rfl, hb7⟩
  have hB7 := hB6.trans (hb7.mono hB6.size)
  clear hb7 hB6 hu5 hv6
  go_wp2_with fail
  refine (decomp_any r _).mono ?_
  rintro e w8 ⟨⟨v8, rfl, hv8⟩, hb8⟩
  have hB8 := hB7.trans (hb8.mono hB7.size)
  clear hb8 hB7
  go_wp2_with fail
  refine (rdecomp_any r _).mono ?_
  rw [rdcp_eq]
  rintro e w9 ⟨⟨v9, rfl, hv9⟩, hb9⟩
  have hB9 := hB8.trans (hb9.mono hB8.size)
  have hu8 := hv8.below hb9 (Nat.le_refl _)
  clear hb9 hB8 hv8
  go_wp2_with fail
  refine (runes_same _ _ (dcp r) (dcp_len' r) _ hu8 hv9).mono ?_
  rintro e w10 ⟨rfl, hb10⟩
  have hB10 := hB9.trans (hb10.mono hB9.size)
  clear hb10 hB9 hu8 hv9
  go_wp2_with fail
  refine (like_any r _).mono ?_
  rintro e w11 ⟨⟨v11, rfl, hv11⟩, hb11⟩
  have hB11 := hB10.trans (hb11.mono hB10.size)
  clear hb11 hB10
  go_wp2_with fail
  refine (rlike_any r _).mono ?_
  rintro e w12 ⟨⟨v12, rfl, hv12⟩, hb12⟩
  have hB12 := hB11.trans (hb12.mono hB11.size)
  have hu11 := hv11.below hb12 (Nat.le_refl _)
  clear hb12 hB11 hv11
  go_wp2_with fail
  refine (runes_same _ _ (lk r) (lk_len r) _ hu11 hv12).mono ?_
  rintro e w13 ⟨rfl, hb13⟩
  have hB13 := hB12.trans (hb13.mono hB12.size)
  clear hb13 hB12 hu11 hv12
  go_wp2_with fail
  refine (works_any _).mono ?_
  rintro e w14 ⟨rfl, hb14⟩
  go_wp2
  go_ret
  exact ⟨rfl, hB13.trans (hb14.mono hB13.size)⟩
end Go.Proofs.Ytiabdlgnblaglaa
