/- The contract of find, and of the six that ask it for one thing. -/
import Derived.Test.YtcgfbejcehiolaaDB
namespace Go.Proofs.Ytcgfbejcehiolaa.D
open Go.RowKit Go.Lib Go.Sort Go.Shelf
set_option linter.unusedVariables false

/-- The row of a code point. -/
def fnd (r : Int) : Rw := if r < 768 then pickR latin r else if r < 1424 then pickR greek r else if r < 7680 then pickR hebrew r else pickR later r
theorem rising_latin : rising latin = true := by decide
theorem rising_greek : rising greek = true := by decide
theorem rising_hebrew : rising hebrew = true := by decide
theorem rising_later : rising later = true := by decide
theorem slice52 (g : Nat) (W : World) : (Instr.sliceAt 81 (.pointer (some ⟨g, 0, none⟩)) none none none).run Try.prog W = .ok (.slice (some ⟨g, 0, none⟩) 19 19) W := by
  have hl : Try.prog.arrayLen 81 = 19 := by kernel_rfl
  rw [run_sliceAt_array_all W 81 ⟨g, 0, none⟩ (by kernel_rfl), hl]
  have hs : (sizeOf (Try.prog.elem 81)).run Try.prog W = .ok 8 W := by kernel_rfl
  rw [hs]
  simp only [Result.andThen, slicedAt]
  rfl
theorem slice56 (g : Nat) (W : World) : (Instr.sliceAt 85 (.pointer (some ⟨g, 0, none⟩)) none none none).run Try.prog W = .ok (.slice (some ⟨g, 0, none⟩) 24 24) W := by
  have hl : Try.prog.arrayLen 85 = 24 := by kernel_rfl
  rw [run_sliceAt_array_all W 85 ⟨g, 0, none⟩ (by kernel_rfl), hl]
  have hs : (sizeOf (Try.prog.elem 85)).run Try.prog W = .ok 8 W := by kernel_rfl
  rw [hs]
  simp only [Result.andThen, slicedAt]
  rfl
theorem slice58 (g : Nat) (W : World) : (Instr.sliceAt 87 (.pointer (some ⟨g, 0, none⟩)) none none none).run Try.prog W = .ok (.slice (some ⟨g, 0, none⟩) 15 15) W := by
  have hl : Try.prog.arrayLen 87 = 15 := by kernel_rfl
  rw [run_sliceAt_array_all W 87 ⟨g, 0, none⟩ (by kernel_rfl), hl]
  have hs : (sizeOf (Try.prog.elem 87)).run Try.prog W = .ok 8 W := by kernel_rfl
  rw [hs]
  simp only [Result.andThen, slicedAt]
  rfl
theorem slice60 (g : Nat) (W : World) : (Instr.sliceAt 89 (.pointer (some ⟨g, 0, none⟩)) none none none).run Try.prog W = .ok (.slice (some ⟨g, 0, none⟩) 30 30) W := by
  have hl : Try.prog.arrayLen 89 = 30 := by kernel_rfl
  rw [run_sliceAt_array_all W 89 ⟨g, 0, none⟩ (by kernel_rfl), hl]
  have hs : (sizeOf (Try.prog.elem 89)).run Try.prog W = .ok 8 W := by kernel_rfl
  rw [hs]
  simp only [Result.andThen, slicedAt]
  rfl

set_option maxRecDepth 100000 in
set_option maxHeartbeats 1600000 in
theorem find_any (r : Int) (w : World) :
    Calls Try.prog 54 #[.int .i32 r] w fun e W' => e = .returned (.agg (cells8 (fnd r)).toArray) ∧ Below w.heap.size w W' := by
  obtain ⟨F, hF⟩ : ∃ F, F = fnd r := ⟨_, rfl⟩
  have HF := hid' hF
  rw [← hF]
  clear hF
  have HI : Hid ((Try.prog.info? 69).map (·.size) = some 8) := by show _ = _; kernel_rfl
  by_cases h1 : r < 768
  · have h1b : decide (r < 768) = true := by simpa using h1
    have HP : Hid (F = pickR latin r) := by show _ = _; rw [HF.out]; unfold fnd; rw [if_pos h1]
    clear HF
    obtain ⟨z, hz, hzs⟩ : ∃ z : Array Value, (∀ w, (zeroValue 81).run Try.prog w = .ok (.agg z) w) ∧ z.size = 152 := by
      refine ⟨(flat8 (List.replicate 19 (0, 0, 0, 0, 0, 0, false, 0))).toArray, ?_, ?_⟩
      · exact (zero_of_info (P := Try.prog) (t := 81) (n := 152) (by kernel_rfl)).1
      · kernel_rfl
    obtain ⟨c, hc⟩ : ∃ c : Array Value, c = (flat8 latin).toArray := ⟨_, rfl⟩
    have HC := hid' hc
    have HCI : Hid ((Try.prog.info? 81).map (·.size) = some c.size) := by show _ = _; rw [hc]; kernel_rfl
    have HCS : Hid (z.size = c.size) := by show _ = _; rw [hzs, hc]; kernel_rfl
    have HCO : Hid (c.all (·.oneCell') = true) := by show _ = _; rw [hc]; kernel_rfl
    have hcall := latin_any
    rw [← hc] at hcall
    have HCALL := hid' hcall
    have hsl := slice52
    clear hc hzs hcall
    go_enter Try.func54, Try.ntmps54
    go_wp2_with fail
    refine (HCALL.out _).mono ?_
    rintro e w1 ⟨rfl, hB1⟩
    have hcell1 : w1.heap[w.heap.size]? = some (.cells #[.int .i32 0, .int .i32 0, .int .u8 0, .int .u8 0, .int .u8 0, .int .u8 0, .bool false, .int .u8 0] 69) := by
      rw [hB1.block _ (by simp)]; exact heap_alloc_last w _
    have hBw : Below w.heap.size w w1 := ((Below.refl _ w).alloc (Nat.le_refl _) _).trans (hB1.mono (by simp))
    have hsz1 : w.heap.size + 1 ≤ w1.heap.size := by have := hB1.size; simpa using this
    have HCELL := hid' hcell1
    have HBW := hid' hBw
    clear hcell1 hBw hB1
    go_wp2_with ((refine wpList_store_row rfl 81 (.tmp 3) (.tmp 10) rfl w1.heap.size c rfl rfl 81 z (by exact heap_alloc_last w1 _) (by exact HCI.out) (by exact HCS.out) (by exact HCO.out) (wpList_nil ?_); rw [World.setRow_alloc_new]))
    refine (among_any w1.heap.size 19 latin r _ (by decide) rising_latin ⟨81, by rw [← HC.out]; exact heap_alloc_last w1 _⟩).mono ?_
    rw [← HP.out]
    rintro e w2 ⟨rfl, hB2⟩
    have hcell2 : w2.heap[w.heap.size]? = some (.cells #[.int .i32 0, .int .i32 0, .int .u8 0, .int .u8 0, .int .u8 0, .int .u8 0, .bool false, .int .u8 0] 69) := by
      rw [hB2.block _ (by simp; omega), Below.heap_alloc _ _ _ (by omega)]; exact HCELL.out
    have hBw2 : Below w.heap.size w w2 := (HBW.out.alloc HBW.out.size _).trans (hB2.mono (by simp; omega))
    obtain ⟨cs, hcs⟩ : ∃ cs : Array Value, cs = (cells8 F).toArray := ⟨_, rfl⟩
    have HS8 : Hid (cs.size = 8) := by show _ = _; rw [hcs]; rfl
    have HO8 : Hid (cs.all (·.oneCell') = true) := by show _ = _; rw [hcs]; kernel_rfl
    rw [← hcs]
    have HCELL2 := hid' hcell2
    have HEQ := hid' hcs
    have HBW2 := hid' hBw2
    clear hcell2 hBw2 hcs hB2
    go_wp2_with ((refine wpList_store_row rfl 69 (.tmp 2) (.tmp 13) rfl w.heap.size cs rfl rfl 69 _ (by exact HCELL2.out) (by rw [HS8.out]; exact HI.out) (by rw [HS8.out]; rfl) (by exact HO8.out) (wpList_nil ?_)))
    exact bodyPost_ret (results_cell_row Try.results54 _ _ w.heap.size 69 cs (0, 0) _ rfl (setRow_heap _ _ _ cs 69 (0, 0) HCELL2.out) Try.underlying69 rfl (by rw [HS8.out]; exact HI.out)) rfl ⟨by rw [HEQ.out], below_setRow HBW2.out (Nat.le_refl _)⟩
  have h1b : decide (r < 768) = false := by simpa using h1
  by_cases h2 : r < 1424
  · have h2b : decide (r < 1424) = true := by simpa using h2
    have HP : Hid (F = pickR greek r) := by show _ = _; rw [HF.out]; unfold fnd; rw [if_neg h1, if_pos h2]
    clear HF
    obtain ⟨z, hz, hzs⟩ : ∃ z : Array Value, (∀ w, (zeroValue 85).run Try.prog w = .ok (.agg z) w) ∧ z.size = 192 := by
      refine ⟨(flat8 (List.replicate 24 (0, 0, 0, 0, 0, 0, false, 0))).toArray, ?_, ?_⟩
      · exact (zero_of_info (P := Try.prog) (t := 85) (n := 192) (by kernel_rfl)).1
      · kernel_rfl
    obtain ⟨c, hc⟩ : ∃ c : Array Value, c = (flat8 greek).toArray := ⟨_, rfl⟩
    have HC := hid' hc
    have HCI : Hid ((Try.prog.info? 85).map (·.size) = some c.size) := by show _ = _; rw [hc]; kernel_rfl
    have HCS : Hid (z.size = c.size) := by show _ = _; rw [hzs, hc]; kernel_rfl
    have HCO : Hid (c.all (·.oneCell') = true) := by show _ = _; rw [hc]; kernel_rfl
    have hcall := greek_any
    rw [← hc] at hcall
    have HCALL := hid' hcall
    have hsl := slice56
    clear hc hzs hcall
    go_enter Try.func54, Try.ntmps54
    go_wp2_with fail
    refine (HCALL.out _).mono ?_
    rintro e w1 ⟨rfl, hB1⟩
    have hcell1 : w1.heap[w.heap.size]? = some (.cells #[.int .i32 0, .int .i32 0, .int .u8 0, .int .u8 0, .int .u8 0, .int .u8 0, .bool false, .int .u8 0] 69) := by
      rw [hB1.block _ (by simp)]; exact heap_alloc_last w _
    have hBw : Below w.heap.size w w1 := ((Below.refl _ w).alloc (Nat.le_refl _) _).trans (hB1.mono (by simp))
    have hsz1 : w.heap.size + 1 ≤ w1.heap.size := by have := hB1.size; simpa using this
    have HCELL := hid' hcell1
    have HBW := hid' hBw
    clear hcell1 hBw hB1
    go_wp2_with ((refine wpList_store_row rfl 85 (.tmp 4) (.tmp 17) rfl w1.heap.size c rfl rfl 85 z (by exact heap_alloc_last w1 _) (by exact HCI.out) (by exact HCS.out) (by exact HCO.out) (wpList_nil ?_); rw [World.setRow_alloc_new]))
    refine (among_any w1.heap.size 24 greek r _ (by decide) rising_greek ⟨85, by rw [← HC.out]; exact heap_alloc_last w1 _⟩).mono ?_
    rw [← HP.out]
    rintro e w2 ⟨rfl, hB2⟩
    have hcell2 : w2.heap[w.heap.size]? = some (.cells #[.int .i32 0, .int .i32 0, .int .u8 0, .int .u8 0, .int .u8 0, .int .u8 0, .bool false, .int .u8 0] 69) := by
      rw [hB2.block _ (by simp; omega), Below.heap_alloc _ _ _ (by omega)]; exact HCELL.out
    have hBw2 : Below w.heap.size w w2 := (HBW.out.alloc HBW.out.size _).trans (hB2.mono (by simp; omega))
    obtain ⟨cs, hcs⟩ : ∃ cs : Array Value, cs = (cells8 F).toArray := ⟨_, rfl⟩
    have HS8 : Hid (cs.size = 8) := by show _ = _; rw [hcs]; rfl
    have HO8 : Hid (cs.all (·.oneCell') = true) := by show _ = _; rw [hcs]; kernel_rfl
    rw [← hcs]
    have HCELL2 := hid' hcell2
    have HEQ := hid' hcs
    have HBW2 := hid' hBw2
    clear hcell2 hBw2 hcs hB2
    go_wp2_with ((refine wpList_store_row rfl 69 (.tmp 2) (.tmp 20) rfl w.heap.size cs rfl rfl 69 _ (by exact HCELL2.out) (by rw [HS8.out]; exact HI.out) (by rw [HS8.out]; rfl) (by exact HO8.out) (wpList_nil ?_)))
    exact bodyPost_ret (results_cell_row Try.results54 _ _ w.heap.size 69 cs (0, 0) _ rfl (setRow_heap _ _ _ cs 69 (0, 0) HCELL2.out) Try.underlying69 rfl (by rw [HS8.out]; exact HI.out)) rfl ⟨by rw [HEQ.out], below_setRow HBW2.out (Nat.le_refl _)⟩
  have h2b : decide (r < 1424) = false := by simpa using h2
  by_cases h3 : r < 7680
  · have h3b : decide (r < 7680) = true := by simpa using h3
    have HP : Hid (F = pickR hebrew r) := by show _ = _; rw [HF.out]; unfold fnd; rw [if_neg h1, if_neg h2, if_pos h3]
    clear HF
    obtain ⟨z, hz, hzs⟩ : ∃ z : Array Value, (∀ w, (zeroValue 87).run Try.prog w = .ok (.agg z) w) ∧ z.size = 120 := by
      refine ⟨(flat8 (List.replicate 15 (0, 0, 0, 0, 0, 0, false, 0))).toArray, ?_, ?_⟩
      · exact (zero_of_info (P := Try.prog) (t := 87) (n := 120) (by kernel_rfl)).1
      · kernel_rfl
    obtain ⟨c, hc⟩ : ∃ c : Array Value, c = (flat8 hebrew).toArray := ⟨_, rfl⟩
    have HC := hid' hc
    have HCI : Hid ((Try.prog.info? 87).map (·.size) = some c.size) := by show _ = _; rw [hc]; kernel_rfl
    have HCS : Hid (z.size = c.size) := by show _ = _; rw [hzs, hc]; kernel_rfl
    have HCO : Hid (c.all (·.oneCell') = true) := by show _ = _; rw [hc]; kernel_rfl
    have hcall := hebrew_any
    rw [← hc] at hcall
    have HCALL := hid' hcall
    have hsl := slice58
    clear hc hzs hcall
    go_enter Try.func54, Try.ntmps54
    go_wp2_with fail
    refine (HCALL.out _).mono ?_
    rintro e w1 ⟨rfl, hB1⟩
    have hcell1 : w1.heap[w.heap.size]? = some (.cells #[.int .i32 0, .int .i32 0, .int .u8 0, .int .u8 0, .int .u8 0, .int .u8 0, .bool false, .int .u8 0] 69) := by
      rw [hB1.block _ (by simp)]; exact heap_alloc_last w _
    have hBw : Below w.heap.size w w1 := ((Below.refl _ w).alloc (Nat.le_refl _) _).trans (hB1.mono (by simp))
    have hsz1 : w.heap.size + 1 ≤ w1.heap.size := by have := hB1.size; simpa using this
    have HCELL := hid' hcell1
    have HBW := hid' hBw
    clear hcell1 hBw hB1
    go_wp2_with ((refine wpList_store_row rfl 87 (.tmp 5) (.tmp 24) rfl w1.heap.size c rfl rfl 87 z (by exact heap_alloc_last w1 _) (by exact HCI.out) (by exact HCS.out) (by exact HCO.out) (wpList_nil ?_); rw [World.setRow_alloc_new]))
    refine (among_any w1.heap.size 15 hebrew r _ (by decide) rising_hebrew ⟨87, by rw [← HC.out]; exact heap_alloc_last w1 _⟩).mono ?_
    rw [← HP.out]
    rintro e w2 ⟨rfl, hB2⟩
    have hcell2 : w2.heap[w.heap.size]? = some (.cells #[.int .i32 0, .int .i32 0, .int .u8 0, .int .u8 0, .int .u8 0, .int .u8 0, .bool false, .int .u8 0] 69) := by
      rw [hB2.block _ (by simp; omega), Below.heap_alloc _ _ _ (by omega)]; exact HCELL.out
    have hBw2 : Below w.heap.size w w2 := (HBW.out.alloc HBW.out.size _).trans (hB2.mono (by simp; omega))
    obtain ⟨cs, hcs⟩ : ∃ cs : Array Value, cs = (cells8 F).toArray := ⟨_, rfl⟩
    have HS8 : Hid (cs.size = 8) := by show _ = _; rw [hcs]; rfl
    have HO8 : Hid (cs.all (·.oneCell') = true) := by show _ = _; rw [hcs]; kernel_rfl
    rw [← hcs]
    have HCELL2 := hid' hcell2
    have HEQ := hid' hcs
    have HBW2 := hid' hBw2
    clear hcell2 hBw2 hcs hB2
    go_wp2_with ((refine wpList_store_row rfl 69 (.tmp 2) (.tmp 27) rfl w.heap.size cs rfl rfl 69 _ (by exact HCELL2.out) (by rw [HS8.out]; exact HI.out) (by rw [HS8.out]; rfl) (by exact HO8.out) (wpList_nil ?_)))
    exact bodyPost_ret (results_cell_row Try.results54 _ _ w.heap.size 69 cs (0, 0) _ rfl (setRow_heap _ _ _ cs 69 (0, 0) HCELL2.out) Try.underlying69 rfl (by rw [HS8.out]; exact HI.out)) rfl ⟨by rw [HEQ.out], below_setRow HBW2.out (Nat.le_refl _)⟩
  have h3b : decide (r < 7680) = false := by simpa using h3
  have HP : Hid (F = pickR later r) := by show _ = _; rw [HF.out]; unfold fnd; rw [if_neg h1, if_neg h2, if_neg h3]
  clear HF
  obtain ⟨z, hz, hzs⟩ : ∃ z : Array Value, (∀ w, (zeroValue 89).run Try.prog w = .ok (.agg z) w) ∧ z.size = 240 := by
    refine ⟨(flat8 (List.replicate 30 (0, 0, 0, 0, 0, 0, false, 0))).toArray, ?_, ?_⟩
    · exact (zero_of_info (P := Try.prog) (t := 89) (n := 240) (by kernel_rfl)).1
    · kernel_rfl
  obtain ⟨c, hc⟩ : ∃ c : Array Value, c = (flat8 later).toArray := ⟨_, rfl⟩
  have HC := hid' hc
  have HCI : Hid ((Try.prog.info? 89).map (·.size) = some c.size) := by show _ = _; rw [hc]; kernel_rfl
  have HCS : Hid (z.size = c.size) := by show _ = _; rw [hzs, hc]; kernel_rfl
  have HCO : Hid (c.all (·.oneCell') = true) := by show _ = _; rw [hc]; kernel_rfl
  have hcall := later_any
  rw [← hc] at hcall
  have HCALL := hid' hcall
  have hsl := slice60
  clear hc hzs hcall
  go_enter Try.func54, Try.ntmps54
  go_wp2_with fail
  refine (HCALL.out _).mono ?_
  rintro e w1 ⟨rfl, hB1⟩
  have hcell1 : w1.heap[w.heap.size]? = some (.cells #[.int .i32 0, .int .i32 0, .int .u8 0, .int .u8 0, .int .u8 0, .int .u8 0, .bool false, .int .u8 0] 69) := by
    rw [hB1.block _ (by simp)]; exact heap_alloc_last w _
  have hBw : Below w.heap.size w w1 := ((Below.refl _ w).alloc (Nat.le_refl _) _).trans (hB1.mono (by simp))
  have hsz1 : w.heap.size + 1 ≤ w1.heap.size := by have := hB1.size; simpa using this
  have HCELL := hid' hcell1
  have HBW := hid' hBw
  clear hcell1 hBw hB1
  go_wp2_with ((refine wpList_store_row rfl 89 (.tmp 6) (.tmp 28) rfl w1.heap.size c rfl rfl 89 z (by exact heap_alloc_last w1 _) (by exact HCI.out) (by exact HCS.out) (by exact HCO.out) (wpList_nil ?_); rw [World.setRow_alloc_new]))
  refine (among_any w1.heap.size 30 later r _ (by decide) rising_later ⟨89, by rw [← HC.out]; exact heap_alloc_last w1 _⟩).mono ?_
  rw [← HP.out]
  rintro e w2 ⟨rfl, hB2⟩
  have hcell2 : w2.heap[w.heap.size]? = some (.cells #[.int .i32 0, .int .i32 0, .int .u8 0, .int .u8 0, .int .u8 0, .int .u8 0, .bool false, .int .u8 0] 69) := by
    rw [hB2.block _ (by simp; omega), Below.heap_alloc _ _ _ (by omega)]; exact HCELL.out
  have hBw2 : Below w.heap.size w w2 := (HBW.out.alloc HBW.out.size _).trans (hB2.mono (by simp; omega))
  obtain ⟨cs, hcs⟩ : ∃ cs : Array Value, cs = (cells8 F).toArray := ⟨_, rfl⟩
  have HS8 : Hid (cs.size = 8) := by show _ = _; rw [hcs]; rfl
  have HO8 : Hid (cs.all (·.oneCell') = true) := by show _ = _; rw [hcs]; kernel_rfl
  rw [← hcs]
  have HCELL2 := hid' hcell2
  have HEQ := hid' hcs
  have HBW2 := hid' hBw2
  clear hcell2 hBw2 hcs hB2
  go_wp2_with ((refine wpList_store_row rfl 69 (.tmp 2) (.tmp 31) rfl w.heap.size cs rfl rfl 69 _ (by exact HCELL2.out) (by rw [HS8.out]; exact HI.out) (by rw [HS8.out]; rfl) (by exact HO8.out) (wpList_nil ?_)))
  exact bodyPost_ret (results_cell_row Try.results54 _ _ w.heap.size 69 cs (0, 0) _ rfl (setRow_heap _ _ _ cs 69 (0, 0) HCELL2.out) Try.underlying69 rfl (by rw [HS8.out]; exact HI.out)) rfl ⟨by rw [HEQ.out], below_setRow HBW2.out (Nat.le_refl _)⟩

set_option maxRecDepth 100000 in
set_option maxHeartbeats 1600000 in
theorem class_any (r : Int) (w : World) :
    Calls Try.prog 35 #[.int .i32 r] w fun e W' => e = .returned (.int .u8 (fnd r).2.2.2.2.2.1) ∧ Below w.heap.size w W' := by
  obtain ⟨⟨x0, x1, x2, x3, x4, x5, x6, x7⟩, hx⟩ : ∃ x, x = fnd r := ⟨_, rfl⟩
  have hcall := find_any r
  rw [← hx] at hcall ⊢
  have HC := hid' hcall
  clear hcall hx
  have hf : ∀ W : World, (Instr.field 69 (.agg #[.int .i32 x0, .int .i32 x1, .int .u8 x2, .int .u8 x3, .int .u8 x4, .int .u8 x5, .bool x6, .int .u8 x7]) 5).run Try.prog W = .ok (.int .u8 x5) W := fun W => by kernel_rfl
  go_enter Try.func35, Try.ntmps35
  go_wp2_with fail
  refine (HC.out _).mono ?_
  simp only [cells8]
  rintro e w1 ⟨rfl, hB1⟩
  go_wp2
  go_ret
  exact ⟨rfl, hB1⟩

end Go.Proofs.Ytcgfbejcehiolaa.D
